/- Several texts in one: XSd. -/
import Derived.Test.YtpjjaolhmhfoeaaLFnExactSubstDo1
import Derived.Test.YtpjjaolhmhfoeaaKBind15
import Derived.Test.YtpjjaolhmhfoeaaKBind17
import Derived.Test.YtpjjaolhmhfoeaaKBind11

/-! XSd: For every slice of binds and every term, laws.FnExactSubstDo answers true and writes nothing that was there. -/
namespace Go.Proofs.Ytpjjaolhmhfoeaa
open Go.RowKit Go.Deep

theorem toTermT_anyD {s v : Int} {a : Option Addr} {c : Nat} {k : Fo} {w : World} (hl : Sl w 0 w.heap.size a k) (hN : fsz k ≤ 1048576) :
    Calls Try.prog 22 #[.agg #[.int .i64 s, .int .i64 v, .slice a (flen k) c]] w (ToPostT s v k w) :=
  toTerm_ofT s v a c k w fun w1 hb1 => toTermS_anyT (fsz k) a c k w1 ((hl.below hb1).mono (Nat.le_refl _) hb1.size) (Nat.le_refl _) hN
theorem Gs.far {lo hi : Nat} {bs : List Bd} {A : Option Addr} {w w2 : World} {lo' hi' : Nat} (h : Gs lo hi bs A w) (hm : Marked lo' hi' w w2) (hd : hi' ≤ lo) : Gs lo hi bs A w2 :=
  ⟨h.bx.same (fun q q1 q2 => hm.far q (by omega) (by have := h.le; omega)), Nat.le_trans h.le hm.below.size⟩
theorem Xb.farB {lo hi b : Nat} {s v : Int} {a : Option Addr} {c : Nat} {k : Fo} {w w2 : World} {top : Nat} (h : Xb lo hi b s v a c k w) (hs : w.heap.size ≤ w2.heap.size) (hm : ∀ q, top ≤ q → q < w.heap.size → w2.heap[q]? = w.heap[q]?) (hd : top ≤ lo) : Xb lo hi b s v a c k w2 := by
  have h0 := h.lh
  have h1 := h.hb
  have h2 := h.lt
  have e := hm b (by omega) h2
  exact ⟨by rw [World.cell?_of_block (a := ⟨b, 0, none⟩) e]; exact h.c0, by rw [World.cell?_of_block (a := ⟨b, 1, none⟩) e]; exact h.c1, by rw [World.cell?_of_block (a := ⟨b, 2, none⟩) e]; exact h.c2, h.sx.same (fun q q1 q2 => hm q (by omega) (by omega)), h.lh, h.hb, Nat.lt_of_lt_of_le h.lt hs⟩
theorem Yb.farB {lo hi b : Nat} {s v : Int} {a : Option Addr} {c : Nat} {k : Fo} {w w2 : World} {top : Nat} (h : Yb lo hi b s v a c k w) (hs : w.heap.size ≤ w2.heap.size) (hm : ∀ q, top ≤ q → q < w.heap.size → w2.heap[q]? = w.heap[q]?) (hd : top ≤ lo) : Yb lo hi b s v a c k w2 := by
  have h0 := h.lh
  have h1 := h.hb
  have h2 := h.lt
  have e := hm b (by omega) h2
  exact ⟨by rw [World.cell?_of_block (a := ⟨b, 0, none⟩) e]; exact h.c0, by rw [World.cell?_of_block (a := ⟨b, 1, none⟩) e]; exact h.c1, by rw [World.cell?_of_block (a := ⟨b, 2, none⟩) e]; exact h.c2, h.tx.same (fun q q1 q2 => hm q (by omega) (by omega)), h.lh, h.hb, Nat.lt_of_lt_of_le h.lt hs⟩

set_option maxRecDepth 100000 in
set_option maxHeartbeats 40000000 in
theorem exactSubstDo_walk (A : Option Addr) (C : Nat) (bs : List Bd) (s v : Int) (a : Option Addr) (c : Nat) (k : Fo) (w : World) (h : BSl w 0 w.heap.size A bs) (hmb : bs.length ≤ maxLen) (hall : ∀ x ∈ bs, flen x.2.2.2 ≤ maxLen ∧ fcap x.2.2.2) (hl : Sl w 0 w.heap.size a k) (hc : fcap k) (hm : flen k ≤ maxLen) :
    Calls Try.prog 6 #[.slice A bs.length C, .agg #[.int .i64 s, .int .i64 v, .slice a (flen k) c]] w fun e w' => e = .returned (.bool true) ∧ Below w.heap.size w w' := by
  have hb0 : Below w.heap.size w (w.alloc (.cells #[.int .i64 s, .int .i64 v, .slice a (flen k) c] 45)) := (Below.refl _ _).alloc (Nat.le_refl _) _
  have hz0 : (w.alloc (.cells #[.int .i64 s, .int .i64 v, .slice a (flen k) c] 45)).heap.size = w.heap.size + 1 := by simp
  have Hq : Hid (Tq (w.heap.size + 1) w.heap.size s v a c k (w.alloc (.cells #[.int .i64 s, .int .i64 v, .slice a (flen k) c] 45))) := ⟨by rw [World.cell?_alloc_at _ _ _ _ (by simp)]; rfl, by rw [World.cell?_alloc_at _ _ _ _ (by simp)]; rfl, by rw [World.cell?_alloc_at _ _ _ _ (by simp)]; rfl, by omega, (hl.below hb0).mono (Nat.le_refl _) (by omega), by omega⟩
  have HS : Hid (Rw (w.heap.size + 1) bs A (w.alloc (.cells #[.int .i64 s, .int .i64 v, .slice a (flen k) c] 45))) := ⟨(h.below hb0).mono (Nat.le_refl _) (by omega), by omega⟩
  have Hlow : Hid (Below w.heap.size w (w.alloc (.cells #[.int .i64 s, .int .i64 v, .slice a (flen k) c] 45))) := hb0
  have HMB := Lib.hid hmb
  have HALL := Lib.hid hall
  have HC := Lib.hid hc
  have HM := Lib.hid hm
  clear h hmb hall hl hc hm hb0 hz0
  go_enter Try.func6, Try.ntmps6
  go_wp2_with fail
  with_reducible refine (szBindS_any bs A C 1048576 _ HS.out.top HMB.out HALL.out (by omega) (by omega)).mono ?_
  rintro e w1 ⟨rfl, hb⟩
  have Hlow' : Hid (Below w.heap.size w w1) := low_next Hlow.out hb
  have Hq' : Hid (Tq (w.heap.size + 1) w.heap.size s v a c k w1) := Hq.out.next hb
  have HS' : Hid (Rw (w.heap.size + 1) bs A w1) := HS.out.next hb
  clear Hlow Hq HS
  have Hlow := Hlow'
  clear Hlow'
  have Hq := Hq'
  clear Hq'
  have HS := HS'
  clear HS'
  clear hb
  rcases szBR_case bs 1048576 with hz | hz
  · rw [hz]
    clear hz
    go_wp2_with fail
    go_ret
    exact ⟨rfl, Hlow.out⟩
  have hfit := (szBR_fit hz (by omega)).1
  have hzl := (szBR_fit hz (by omega)).2
  have HZB : Hid (∀ x ∈ bs, fsz x.2.2.2 ≤ 1048576) := fun x hx => by have := szT_mem hx; omega
  generalize szBR bs 1048576 = z at *
  have qq0 := Hq.out.c0
  have qq1 := Hq.out.c1
  have qq2 := Hq.out.c2
  go_wp2_with fail
  with_reducible refine (szTerm_any Hq.out.top HC.out HM.out hz hzl).mono ?_
  rintro e w2 ⟨rfl, hb⟩
  clear qq0 qq1 qq2
  have Hlow' : Hid (Below w.heap.size w w2) := low_next Hlow.out hb
  have Hq' : Hid (Tq (w.heap.size + 1) w.heap.size s v a c k w2) := Hq.out.next hb
  have HS' : Hid (Rw (w.heap.size + 1) bs A w2) := HS.out.next hb
  clear Hlow Hq HS
  have Hlow := Hlow'
  clear Hlow'
  have Hq := Hq'
  clear Hq'
  have HS := HS'
  clear HS'
  clear hb
  rcases szR_case k z with hz2 | hz2
  · rw [hz2]
    clear hz2
    go_wp2_with fail
    go_ret
    exact ⟨rfl, Hlow.out⟩
  have hN : fsz k ≤ 1048576 := by have h9 := hz2; unfold szR at h9; split at h9 <;> omega
  generalize szR k z = z2 at *
  have hmc : mcn bs ≤ 4000000 := by rw [mcn_szT]; omega
  have hmp := mcn_pos bs
  clear hzl
  have hu0 : ∀ u : After w2.heap.size w2, u.world.cell? ⟨w.heap.size, 0, none⟩ = some (.int .i64 s) := fun u => cell_low u.below Hq.out.c0
  have hu1 : ∀ u : After w2.heap.size w2, u.world.cell? ⟨w.heap.size, 1, none⟩ = some (.int .i64 v) := fun u => cell_low u.below Hq.out.c1
  have hu2 : ∀ u : After w2.heap.size w2, u.world.cell? ⟨w.heap.size, 2, none⟩ = some (.slice a (flen k) c) := fun u => cell_low u.below Hq.out.c2
  go_wp2_with fail
  refine wp_region_anyT (fun w' => ∃ u : After w2.heap.size w2, w' = u.world) (by kernel_rfl) ?_
  have HBD : Hid (Below w2.heap.size w2 w2.drew) := (Below.refl _ _).drew
  generalize w2.drew = wdw at *
  refine anyT_look (i := 0) rfl (by kernel_rfl) ⟨⟨_, HBD.out⟩, rfl⟩ (fun K hK => ?_)
  go_simp
  refine hK _ ?_
  clear hK K
  refine anyT_look (i := 2) rfl (by kernel_rfl) ⟨⟨_, HBD.out⟩, rfl⟩ (fun K hK => ?_)
  go_simp
  refine hK _ ?_
  clear hK K
  clear hu0 hu1 hu2
  refine anyT_two (i := 1) (j := 8) (by kernel_rfl) rfl rfl (fun K hK => ?_) (fun K hK => ?_)
  · go_simp
    with_reducible refine (toBindS_any bs A C _ (HS.out.next HBD.out).top (by omega) HZB.out).mono ?_
    rintro e w3 ⟨A5w, C5w, rfl, hb, hs5⟩
    have HR5 := Lib.hid (hs5.bsl.mono (lo' := 0) (Nat.zero_le _) (Nat.le_refl _))
    clear hs5
    replace HBD := Lib.hid (low_next HBD.out hb)
    refine hK _ _ ⟨⟨_, HBD.out⟩, rfl⟩ ?_
    clear hK K hb
    refine anyT_two (i := 3) (j := 8) (by kernel_rfl) rfl rfl (fun K hK => ?_) (fun K hK => ?_)
    · go_simp
      with_reducible refine (toTerm_any (Hq.out.next HBD.out).top hN).mono ?_
      rintro e w4 ⟨a6w, c6w, rfl, hb, hl6⟩
      replace HR5 := Lib.hid ((HR5.out.below hb).mono (Nat.le_refl _) (hb).size)
      have HT6 := Lib.hid (hl6.mono (lo' := 0) (Nat.zero_le _) (Nat.le_refl _))
      clear hl6
      replace HBD := Lib.hid (low_next HBD.out hb)
      refine hK _ _ ⟨⟨_, HBD.out⟩, rfl⟩ ?_
      clear hK K hb
      refine anyT_two (i := 4) (j := 8) (by kernel_rfl) rfl rfl (fun K hK => ?_) (fun K hK => ?_)
      · go_simp
        with_reducible refine (sSubstDo_any bs A5w C5w s v a6w c6w k _ HR5.out (by omega) HT6.out).mono ?_
        rintro e w5 ⟨aw, cw, sw, vw, kw, tw, hdw, rfl, hb, hlx⟩
        have HDw := Lib.hid hdw
        clear hdw
        have hhi := hb.size
        replace HT6 := Lib.hid ((HT6.out.below hb).mono (Nat.le_refl _) (hb).size)
        replace HR5 := Lib.hid ((HR5.out.below hb).mono (Nat.le_refl _) (hb).size)
        have HLX := Lib.hid hlx
        clear hlx HR5 HT6
        replace HBD := Lib.hid (low_next HBD.out hb)
        refine hK _ _ ⟨⟨_, HBD.out⟩, rfl⟩ ?_
        clear hK K hb
        refine anyT_look (i := 5) rfl (by kernel_rfl) ⟨⟨_, HBD.out⟩, rfl⟩ (fun K hK => ?_)
        go_simp
        refine hK _ ?_
        clear hK K
        refine anyT_look (i := 6) rfl (by kernel_rfl) ⟨⟨_, HBD.out⟩, rfl⟩ (fun K hK => ?_)
        go_simp
        refine hK _ ?_
        clear hK K
        refine anyT_look (i := 7) rfl (by kernel_rfl) ⟨⟨_, HBD.out⟩, rfl⟩ (fun K hK => ?_)
        go_simp
        refine hK _ ?_
        clear hK K
        refine anyT_one (i := 8) (by kernel_rfl) rfl (fun K hK => ?_)
        go_simp
        have HZ := Lib.hid (zb_new w5)
        have hbz : w2.heap.size ≤ w5.heap.size := HBD.out.size
        have hbe : Below w5.heap.size w5 (w5.alloc (.cells #[.int .i64 0, .int .i64 0, .slice none 0 0] 28)) := (Below.refl _ _).alloc (Nat.le_refl _) _
        have hze := hbe.size
        replace HLX := Lib.hid (HLX.out.below hbe)
        replace HBD := Lib.hid (low_next HBD.out hbe)
        refine hK _ _ ⟨⟨_, HBD.out⟩, rfl⟩ ?_
        clear hK K hbe
        generalize hwz : w5.alloc (.cells #[.int .i64 0, .int .i64 0, .slice none 0 0] 28) = wzw at *
        clear hwz
        have hzz0 := HZ.out.z0
        have hzz1 := HZ.out.z1
        have hzz2 := HZ.out.z2
        have hzf0 := HZ.out.f 0
        have hzf1 := HZ.out.f 1
        have hzf2 := HZ.out.f 2
        have HFIN : Hid (Below w2.heap.size w2 (((wzw.setCell ⟨w5.heap.size, 0, none⟩ (.int .i64 sw)).setCell ⟨w5.heap.size, 1, none⟩ (.int .i64 vw)).setCell ⟨w5.heap.size, 2, none⟩ (.slice aw (flen kw) cw)) ∧ Tb w5.heap.size sw vw aw cw kw (((wzw.setCell ⟨w5.heap.size, 0, none⟩ (.int .i64 sw)).setCell ⟨w5.heap.size, 1, none⟩ (.int .i64 vw)).setCell ⟨w5.heap.size, 2, none⟩ (.slice aw (flen kw) cw))) := zb_fin HZ.out HBD.out hbz HLX.out hze (.inr (Nat.le_refl _))
        refine anyT_one (i := 9) (by kernel_rfl) rfl (fun K hK => ?_)
        go_simp
        refine hK _ _ ⟨⟨_, HFIN.out.1⟩, rfl⟩ ?_
        clear hK K hzz0 hzz1 hzz2 hzf0 hzf1 hzf2
        refine anyT_one (i := 10) (by kernel_rfl) rfl (fun K hK => ?_)
        go_simp
        refine hK _ _ ⟨⟨_, HFIN.out.1⟩, rfl⟩ ?_
        clear hK K
        refine anyT_done (by kernel_rfl) ?_
        have HBE := Lib.hid HFIN.out.1
        have HTB := Lib.hid HFIN.out.2
        clear HFIN HZ HLX HBD
        generalize (((wzw.setCell ⟨w5.heap.size, 0, none⟩ (.int .i64 sw)).setCell ⟨w5.heap.size, 1, none⟩ (.int .i64 vw)).setCell ⟨w5.heap.size, 2, none⟩ (.slice aw (flen kw) cw)) = wew at *
        have Hlow' : Hid (Below w.heap.size w wew) := low_next Hlow.out HBE.out
        have Hq' : Hid (Tq (w.heap.size + 1) w.heap.size s v a c k wew) := Hq.out.next HBE.out
        have HS' : Hid (Rw (w.heap.size + 1) bs A wew) := HS.out.next HBE.out
        clear Hlow Hq HS
        have Hlow := Hlow'
        clear Hlow'
        have Hq := Hq'
        clear Hq'
        have HS := HS'
        clear HS'
        have hbzlw : w5.heap.size < wew.heap.size := World.block_lt_of_cell? _ _ HTB.out.c0
        obtain ⟨bbw, hbb⟩ : ∃ b, b = w5.heap.size := ⟨_, rfl⟩
        rw [← hbb] at HTB hbzlw ⊢
        have Hw : Hid (Tq wew.heap.size bbw sw vw aw cw kw wew) := ⟨HTB.out.c0, HTB.out.c1, HTB.out.c2, hbzlw, HTB.out.sl, Nat.le_refl _⟩
        clear HBE HTB hbb hbzlw hbz
        clear hz hz2
        have hkw := sdR_sz HDw.out
        have hnw := Hw.out.le
        have hqn := Hq.out.le
        go_wp2_with fail
        with_reducible refine (toBindS_any bs A C _ HS.out.top (by omega) HZB.out).mono ?_
        rintro e w6 ⟨Ax, Cx, rfl, hb, hsx⟩
        have hsz1 := hb.size
        have Hlow' : Hid (Below w.heap.size w w6) := low_next Hlow.out hb
        have Hq' : Hid (Tq (w.heap.size + 1) w.heap.size s v a c k w6) := Hq.out.next hb
        have HS' : Hid (Rw (w.heap.size + 1) bs A w6) := HS.out.next hb
        have Hw' : Hid (Tq wew.heap.size bbw sw vw aw cw kw w6) := Hw.out.next hb
        clear Hlow Hq HS Hw
        have Hlow := Hlow'
        clear Hlow'
        have Hq := Hq'
        clear Hq'
        have HS := HS'
        clear HS'
        have Hw := Hw'
        clear Hw'
        clear hb
        have Hx : Hid (Gs wew.heap.size w6.heap.size bs Ax w6) := ⟨hsx, Nat.le_refl _⟩
        clear hsx
        have qq0 := Hq.out.c0
        have qq1 := Hq.out.c1
        have qq2 := Hq.out.c2
        go_wp2_with fail
        with_reducible refine (toTermT_anyD Hq.out.top hN).mono ?_
        rintro e w7 ⟨ay, cy, rfl, hb, hly⟩
        clear qq0 qq1 qq2
        have hsz2 := hb.size
        have Hlow' : Hid (Below w.heap.size w w7) := low_next Hlow.out hb
        have Hq' : Hid (Tq (w.heap.size + 1) w.heap.size s v a c k w7) := Hq.out.next hb
        have HS' : Hid (Rw (w.heap.size + 1) bs A w7) := HS.out.next hb
        have Hw' : Hid (Tq wew.heap.size bbw sw vw aw cw kw w7) := Hw.out.next hb
        have Hx' : Hid (Gs wew.heap.size w6.heap.size bs Ax w7) := Hx.out.next hb
        clear Hlow Hq HS Hw Hx
        have Hlow := Hlow'
        clear Hlow'
        have Hq := Hq'
        clear Hq'
        have HS := HS'
        clear HS'
        have Hw := Hw'
        clear Hw'
        have Hx := Hx'
        clear Hx'
        clear hb
        have Hyn : Hid (Xb w6.heap.size w7.heap.size w7.heap.size s v ay cy k (w7.alloc (.cells #[.int .i64 s, .int .i64 v, .slice ay (flen k) cy] 28))) := Xb.new hly hsz2 _
        have hb : Below w7.heap.size w7 (w7.alloc (.cells #[.int .i64 s, .int .i64 v, .slice ay (flen k) cy] 28)) := (Below.refl _ _).alloc (Nat.le_refl _) _
        clear hly
        have Hlow' : Hid (Below w.heap.size w (w7.alloc (.cells #[.int .i64 s, .int .i64 v, .slice ay (flen k) cy] 28))) := low_next Hlow.out hb
        have Hq' : Hid (Tq (w.heap.size + 1) w.heap.size s v a c k (w7.alloc (.cells #[.int .i64 s, .int .i64 v, .slice ay (flen k) cy] 28))) := Hq.out.next hb
        have HS' : Hid (Rw (w.heap.size + 1) bs A (w7.alloc (.cells #[.int .i64 s, .int .i64 v, .slice ay (flen k) cy] 28))) := HS.out.next hb
        have Hw' : Hid (Tq wew.heap.size bbw sw vw aw cw kw (w7.alloc (.cells #[.int .i64 s, .int .i64 v, .slice ay (flen k) cy] 28))) := Hw.out.next hb
        have Hx' : Hid (Gs wew.heap.size w6.heap.size bs Ax (w7.alloc (.cells #[.int .i64 s, .int .i64 v, .slice ay (flen k) cy] 28))) := Hx.out.next hb
        clear Hlow Hq HS Hw Hx
        have Hlow := Hlow'
        clear Hlow'
        have Hq := Hq'
        clear Hq'
        have HS := HS'
        clear HS'
        have Hw := Hw'
        clear Hw'
        have Hx := Hx'
        clear Hx'
        have Hy := Hyn
        clear Hyn hb
        have qy0 := Hy.out.c0
        have qy1 := Hy.out.c1
        have qy2 := Hy.out.c2
        go_wp2_with fail
        with_reducible refine (iSubstDoT_any bs Ax Cx s v ay cy k _ Hx.out.top (by omega) Hy.out.top).mono ?_
        rintro e w8 ⟨ag, cg, sg, vg, kg, tg, hdg, rfl, hb, htx⟩
        rw [HDw.out] at hdg
        simp only [Prod.mk.injEq] at hdg
        obtain ⟨rfl, rfl, rfl, rfl⟩ := hdg
        clear qy0 qy1 qy2
        have hsz3 : w7.heap.size + 1 ≤ w8.heap.size := by have h9 := hb.size; simpa using h9
        have Hlow' : Hid (Below w.heap.size w w8) := low_next Hlow.out hb
        have Hq' : Hid (Tq (w.heap.size + 1) w.heap.size s v a c k w8) := Hq.out.next hb
        have HS' : Hid (Rw (w.heap.size + 1) bs A w8) := HS.out.next hb
        have Hw' : Hid (Tq wew.heap.size bbw sw vw aw cw kw w8) := Hw.out.next hb
        have Hx' : Hid (Gs wew.heap.size w6.heap.size bs Ax w8) := Hx.out.next hb
        have Hy' : Hid (Xb w6.heap.size w7.heap.size w7.heap.size s v ay cy k w8) := Hy.out.next hb
        clear Hlow Hq HS Hw Hx Hy
        have Hlow := Hlow'
        clear Hlow'
        have Hq := Hq'
        clear Hq'
        have HS := HS'
        clear HS'
        have Hw := Hw'
        clear Hw'
        have Hx := Hx'
        clear Hx'
        have Hy := Hy'
        clear Hy'
        clear hb
        have hb : Below w8.heap.size w8 (w8.alloc (.cells #[.int .i64 sw, .int .i64 vw, .slice ag (flen kw) cg] 28)) := (Below.refl _ _).alloc (Nat.le_refl _) _
        have Hgn : Hid (Yb (w7.heap.size + 1) w8.heap.size w8.heap.size sw vw ag cg kw (w8.alloc (.cells #[.int .i64 sw, .int .i64 vw, .slice ag (flen kw) cg] 28))) := Yb.new (htx.mono (by simp) (Nat.le_refl _)) hsz3 _
        have Hlow' : Hid (Below w.heap.size w (w8.alloc (.cells #[.int .i64 sw, .int .i64 vw, .slice ag (flen kw) cg] 28))) := low_next Hlow.out hb
        have Hq' : Hid (Tq (w.heap.size + 1) w.heap.size s v a c k (w8.alloc (.cells #[.int .i64 sw, .int .i64 vw, .slice ag (flen kw) cg] 28))) := Hq.out.next hb
        have HS' : Hid (Rw (w.heap.size + 1) bs A (w8.alloc (.cells #[.int .i64 sw, .int .i64 vw, .slice ag (flen kw) cg] 28))) := HS.out.next hb
        have Hw' : Hid (Tq wew.heap.size bbw sw vw aw cw kw (w8.alloc (.cells #[.int .i64 sw, .int .i64 vw, .slice ag (flen kw) cg] 28))) := Hw.out.next hb
        have Hx' : Hid (Gs wew.heap.size w6.heap.size bs Ax (w8.alloc (.cells #[.int .i64 sw, .int .i64 vw, .slice ag (flen kw) cg] 28))) := Hx.out.next hb
        have Hy' : Hid (Xb w6.heap.size w7.heap.size w7.heap.size s v ay cy k (w8.alloc (.cells #[.int .i64 sw, .int .i64 vw, .slice ag (flen kw) cg] 28))) := Hy.out.next hb
        clear Hlow Hq HS Hw Hx Hy
        have Hlow := Hlow'
        clear Hlow'
        have Hq := Hq'
        clear Hq'
        have HS := HS'
        clear HS'
        have Hw := Hw'
        clear Hw'
        have Hx := Hx'
        clear Hx'
        have Hy := Hy'
        clear Hy'
        have Hg := Hgn
        clear Hgn hb htx
        have eb : (tw != tw) = false := by simp
        have qg0 := Hg.out.c0
        have qg1 := Hg.out.c1
        have qg2 := Hg.out.c2
        have qw0 := Hw.out.c0
        have qw1 := Hw.out.c1
        have qw2 := Hw.out.c2
        go_wp2_with fail
        with_reducible refine (eqTerm_any (k := kw) Hg.out.top Hw.out.top (by omega)).mono ?_
        rintro e w9 ⟨rfl, hb⟩
        clear qg0 qg1 qg2 qw0 qw1 qw2
        have Hlow' : Hid (Below w.heap.size w w9) := low_next Hlow.out hb
        have Hq' : Hid (Tq (w.heap.size + 1) w.heap.size s v a c k w9) := Hq.out.next hb
        have HS' : Hid (Rw (w.heap.size + 1) bs A w9) := HS.out.next hb
        have Hw' : Hid (Tq wew.heap.size bbw sw vw aw cw kw w9) := Hw.out.next hb
        have Hx' : Hid (Gs wew.heap.size w6.heap.size bs Ax w9) := Hx.out.next hb
        have Hy' : Hid (Xb w6.heap.size w7.heap.size w7.heap.size s v ay cy k w9) := Hy.out.next hb
        have Hg' : Hid (Yb (w7.heap.size + 1) w8.heap.size w8.heap.size sw vw ag cg kw w9) := Hg.out.next hb
        clear Hlow Hq HS Hw Hx Hy Hg
        have Hlow := Hlow'
        clear Hlow'
        have Hq := Hq'
        clear Hq'
        have HS := HS'
        clear HS'
        have Hw := Hw'
        clear Hw'
        have Hx := Hx'
        clear Hx'
        have Hy := Hy'
        clear Hy'
        have Hg := Hg'
        clear Hg'
        clear hb
        go_wp2_with fail
        with_reducible refine (toBindS_any bs A C _ HS.out.top (by omega) HZB.out).mono ?_
        rintro e w10 ⟨A9, C9, rfl, hb, hs9⟩
        have Hlow' : Hid (Below w.heap.size w w10) := low_next Hlow.out hb
        have Hq' : Hid (Tq (w.heap.size + 1) w.heap.size s v a c k w10) := Hq.out.next hb
        have HS' : Hid (Rw (w.heap.size + 1) bs A w10) := HS.out.next hb
        have Hw' : Hid (Tq wew.heap.size bbw sw vw aw cw kw w10) := Hw.out.next hb
        have Hx' : Hid (Gs wew.heap.size w6.heap.size bs Ax w10) := Hx.out.next hb
        have Hy' : Hid (Xb w6.heap.size w7.heap.size w7.heap.size s v ay cy k w10) := Hy.out.next hb
        have Hg' : Hid (Yb (w7.heap.size + 1) w8.heap.size w8.heap.size sw vw ag cg kw w10) := Hg.out.next hb
        clear Hlow Hq HS Hw Hx Hy Hg
        have Hlow := Hlow'
        clear Hlow'
        have Hq := Hq'
        clear Hq'
        have HS := HS'
        clear HS'
        have Hw := Hw'
        clear Hw'
        have Hx := Hx'
        clear Hx'
        have Hy := Hy'
        clear Hy'
        have Hg := Hg'
        clear Hg'
        clear hb
        have HS9 : Hid (BSl w10 0 w10.heap.size A9 bs) := hs9.bsl.mono (Nat.zero_le _) (Nat.le_refl _)
        clear hs9
        go_wp2_with fail
        with_reducible refine (eqBindS_same bs Ax A9 Cx C9 _ Hx.out.top HS9.out (by omega) HZB.out).mono ?_
        rintro e w11 ⟨rfl, hb⟩
        have Hlow' : Hid (Below w.heap.size w w11) := low_next Hlow.out hb
        have Hq' : Hid (Tq (w.heap.size + 1) w.heap.size s v a c k w11) := Hq.out.next hb
        have HS' : Hid (Rw (w.heap.size + 1) bs A w11) := HS.out.next hb
        have Hw' : Hid (Tq wew.heap.size bbw sw vw aw cw kw w11) := Hw.out.next hb
        have Hx' : Hid (Gs wew.heap.size w6.heap.size bs Ax w11) := Hx.out.next hb
        have Hy' : Hid (Xb w6.heap.size w7.heap.size w7.heap.size s v ay cy k w11) := Hy.out.next hb
        have Hg' : Hid (Yb (w7.heap.size + 1) w8.heap.size w8.heap.size sw vw ag cg kw w11) := Hg.out.next hb
        clear Hlow Hq HS Hw Hx Hy Hg
        have Hlow := Hlow'
        clear Hlow'
        have Hq := Hq'
        clear Hq'
        have HS := HS'
        clear HS'
        have Hw := Hw'
        clear Hw'
        have Hx := Hx'
        clear Hx'
        have Hy := Hy'
        clear Hy'
        have Hg := Hg'
        clear Hg'
        clear hb
        clear HS9
        have hu0 : ∀ u : After w11.heap.size w11, u.world.cell? ⟨w7.heap.size, 0, none⟩ = some (.int .i64 s) := fun u => cell_low u.below Hy.out.c0
        have hu1 : ∀ u : After w11.heap.size w11, u.world.cell? ⟨w7.heap.size, 1, none⟩ = some (.int .i64 v) := fun u => cell_low u.below Hy.out.c1
        have hu2 : ∀ u : After w11.heap.size w11, u.world.cell? ⟨w7.heap.size, 2, none⟩ = some (.slice ay (flen k) cy) := fun u => cell_low u.below Hy.out.c2
        have hu3 : ∀ u : After w11.heap.size w11, u.world.cell? ⟨w.heap.size, 0, none⟩ = some (.int .i64 s) := fun u => cell_low u.below Hq.out.c0
        have hu4 : ∀ u : After w11.heap.size w11, u.world.cell? ⟨w.heap.size, 1, none⟩ = some (.int .i64 v) := fun u => cell_low u.below Hq.out.c1
        have hu5 : ∀ u : After w11.heap.size w11, u.world.cell? ⟨w.heap.size, 2, none⟩ = some (.slice a (flen k) c) := fun u => cell_low u.below Hq.out.c2
        go_wp2_with fail
        refine wp_region_mix (fun w' => ∃ u : After w11.heap.size w11, w' = u.world) [] [(0, 0), (1, 0), (2, 1), (3, 1), (4, 0)] (by kernel_rfl) (by kernel_rfl) ⟨⟨_, (Below.refl _ _).drew⟩, rfl⟩ ?_
        have HBD : Hid (Below w11.heap.size w11 w11.drew) := (Below.refl _ _).drew
        generalize w11.drew = wd at *
        refine mix_see rfl (fun K hK => ?_)
        go_simp
        refine hK _ ?_
        clear hK K
        refine mix_see rfl (fun K hK => ?_)
        go_simp
        refine hK _ ?_
        clear hK K
        refine mix_hold rfl (fun K hK => ?_)
        go_simp
        with_reducible refine (toTerm_any (Hq.out.next HBD.out).top hN).mono ?_
        rintro e w12 ⟨aq9, cq9, rfl, hb, hl9⟩
        have HT9 := Lib.hid (hl9.mono (lo' := 0) (Nat.zero_le _) (Nat.le_refl _))
        clear hl9
        replace HBD := Lib.hid (low_next HBD.out hb)
        refine hK _ _ ⟨⟨_, HBD.out⟩, rfl⟩ ?_
        clear hK K hb
        refine mix_hold rfl (fun K hK => ?_)
        go_simp
        with_reducible refine (eqTerm_any (k := k) (Hy.out.next HBD.out).top HT9.out hN).mono ?_
        rintro e w13 ⟨rfl, hb⟩
        clear HT9
        replace HBD := Lib.hid (low_next HBD.out hb)
        refine hK _ _ ⟨⟨_, HBD.out⟩, rfl⟩ ?_
        clear hK K hb
        refine mix_see rfl (fun K hK => ?_)
        go_simp
        refine hK _ ?_
        clear hK K
        refine mix_end ?_
        clear hu0 hu1 hu2 hu3 hu4 hu5
        have Hlow' : Hid (Below w.heap.size w w13) := low_next Hlow.out HBD.out
        have Hq' : Hid (Tq (w.heap.size + 1) w.heap.size s v a c k w13) := Hq.out.next HBD.out
        have HS' : Hid (Rw (w.heap.size + 1) bs A w13) := HS.out.next HBD.out
        have Hw' : Hid (Tq wew.heap.size bbw sw vw aw cw kw w13) := Hw.out.next HBD.out
        have Hx' : Hid (Gs wew.heap.size w6.heap.size bs Ax w13) := Hx.out.next HBD.out
        have Hy' : Hid (Xb w6.heap.size w7.heap.size w7.heap.size s v ay cy k w13) := Hy.out.next HBD.out
        have Hg' : Hid (Yb (w7.heap.size + 1) w8.heap.size w8.heap.size sw vw ag cg kw w13) := Hg.out.next HBD.out
        clear Hlow Hq HS Hw Hx Hy Hg
        have Hlow := Hlow'
        clear Hlow'
        have Hq := Hq'
        clear Hq'
        have HS := HS'
        clear HS'
        have Hw := Hw'
        clear Hw'
        have Hx := Hx'
        clear Hx'
        have Hy := Hy'
        clear Hy'
        have Hg := Hg'
        clear Hg'
        clear HBD
        have HBXS := Lib.hid Hx.out.bx
        have hxl := Hx.out.le
        have hyl := Hy.out.lt
        have hyh := Hy.out.hb
        have hylh := Hy.out.lh
        have hgl := Hg.out.lt
        have hgh := Hg.out.hb
        have hglh := Hg.out.lh
        have hwl := Hw.out.le
        have hsl := HS.out.le
        go_wp2_with fail
        with_reducible refine (markBindSs_any bs Ax Cx wew.heap.size w6.heap.size 1 _ HBXS.out hxl (by omega) HZB.out (by omega) (by omega) hmc).mono ?_
        rintro e w14 ⟨rfl, hbm, hfar⟩
        have hslow := Hlow.out.size
        clear Hx HBXS
        have Hlow' : Hid (Below w.heap.size w w14) := Hlow.out.trans (hbm.mono (by omega))
        have Hq' : Hid (Tq (w.heap.size + 1) w.heap.size s v a c k w14) := Hq.out.go hbm (by omega)
        have HS' : Hid (Rw (w.heap.size + 1) bs A w14) := HS.out.go hbm (by omega)
        have Hw' : Hid (Tq wew.heap.size bbw sw vw aw cw kw w14) := Hw.out.go hbm (Nat.le_refl _)
        have Hy' : Hid (Xb w6.heap.size w7.heap.size w7.heap.size s v ay cy k w14) := Hy.out.farB hbm.size hfar (by omega)
        have Hg' : Hid (Yb (w7.heap.size + 1) w8.heap.size w8.heap.size sw vw ag cg kw w14) := Hg.out.farB hbm.size hfar (by omega)
        clear Hlow Hq HS Hw Hy Hg
        have Hlow := Hlow'
        clear Hlow'
        have Hq := Hq'
        clear Hq'
        have HS := HS'
        clear HS'
        have Hw := Hw'
        clear Hw'
        have Hy := Hy'
        clear Hy'
        have Hg := Hg'
        clear Hg'
        clear hbm hfar hxl hyl hyh hylh hgl hgh hglh hwl hsl hslow
        have qy0 := Hy.out.c0
        have qy1 := Hy.out.c1
        have qy2 := Hy.out.c2
        have HSX := Lib.hid Hy.out.sx.2
        have hyl := Hy.out.lt
        have hyh := Hy.out.hb
        have hylh := Hy.out.lh
        have hgl := Hg.out.lt
        have hgh := Hg.out.hb
        have hglh := Hg.out.lh
        have hwl := Hw.out.le
        have hsl := HS.out.le
        go_wp2_with fail
        with_reducible refine (markTerm_any s v ay cy k w6.heap.size w7.heap.size (1 + mcn bs) _ HSX.out hN (by omega) (by omega) (by omega) (by omega)).mono ?_
        rintro e w15 ⟨rfl, hmk⟩
        clear qy0 qy1 qy2
        have hslow := Hlow.out.size
        clear Hy HSX
        have Hlow' : Hid (Below w.heap.size w w15) := Hlow.out.trans (hmk.below.mono (by omega))
        have Hq' : Hid (Tq (w.heap.size + 1) w.heap.size s v a c k w15) := Hq.out.go hmk.below (by omega)
        have HS' : Hid (Rw (w.heap.size + 1) bs A w15) := HS.out.go hmk.below (by omega)
        have Hw' : Hid (Tq wew.heap.size bbw sw vw aw cw kw w15) := Hw.out.go hmk.below (by omega)
        have Hg' : Hid (Yb (w7.heap.size + 1) w8.heap.size w8.heap.size sw vw ag cg kw w15) := Hg.out.far hmk (by omega)
        clear Hlow Hq HS Hw Hg
        have Hlow := Hlow'
        clear Hlow'
        have Hq := Hq'
        clear Hq'
        have HS := HS'
        clear HS'
        have Hw := Hw'
        clear Hw'
        have Hg := Hg'
        clear Hg'
        clear hmk hyl hyh hylh hgl hgh hglh hwl hsl hslow
        have e1 : decide (1 + mcn bs + 2 * (fsz k : Int) < 0) = false := decide_eq_false (by omega)
        have qg0 := Hg.out.c0
        have qg1 := Hg.out.c1
        have qg2 := Hg.out.c2
        have qw0 := Hw.out.c0
        have qw1 := Hw.out.c1
        have qw2 := Hw.out.c2
        go_wp2_with fail
        with_reducible refine (eqTerm_any (k := kw) Hg.out.top Hw.out.top (by omega)).mono ?_
        rintro e w16 ⟨rfl, hb⟩
        clear qg0 qg1 qg2 qw0 qw1 qw2
        have Hlow' : Hid (Below w.heap.size w w16) := low_next Hlow.out hb
        have Hq' : Hid (Tq (w.heap.size + 1) w.heap.size s v a c k w16) := Hq.out.next hb
        have HS' : Hid (Rw (w.heap.size + 1) bs A w16) := HS.out.next hb
        have Hw' : Hid (Tq wew.heap.size bbw sw vw aw cw kw w16) := Hw.out.next hb
        have Hg' : Hid (Yb (w7.heap.size + 1) w8.heap.size w8.heap.size sw vw ag cg kw w16) := Hg.out.next hb
        clear Hlow Hq HS Hw Hg
        have Hlow := Hlow'
        clear Hlow'
        have Hq := Hq'
        clear Hq'
        have HS := HS'
        clear HS'
        have Hw := Hw'
        clear Hw'
        have Hg := Hg'
        clear Hg'
        clear hb
        have qg0 := Hg.out.c0
        have qg1 := Hg.out.c1
        have qg2 := Hg.out.c2
        have HTXG := Lib.hid Hg.out.tx.2
        have hgl := Hg.out.lt
        have hgh := Hg.out.hb
        have hglh := Hg.out.lh
        have hwl := Hw.out.le
        have hsl := HS.out.le
        go_wp2_with fail
        with_reducible refine (markTermT_any sw vw ag cg kw (w7.heap.size + 1) w8.heap.size 1 _ HTXG.out (by omega) (by omega) (by omega) hglh (by omega)).mono ?_
        rintro e w17 ⟨rfl, hmk, hhd⟩
        clear qg0 qg1 qg2
        have hslow := Hlow.out.size
        have Hhn : Hid (Yh (w7.heap.size + 1) w8.heap.size w8.heap.size sw vw ag cg kw 1 w17) := Hg.out.held hmk hhd
        clear Hg HTXG
        have Hlow' : Hid (Below w.heap.size w w17) := Hlow.out.trans (hmk.below.mono (by omega))
        have Hq' : Hid (Tq (w.heap.size + 1) w.heap.size s v a c k w17) := Hq.out.go hmk.below (by omega)
        have HS' : Hid (Rw (w.heap.size + 1) bs A w17) := HS.out.go hmk.below (by omega)
        have Hw' : Hid (Tq wew.heap.size bbw sw vw aw cw kw w17) := Hw.out.go hmk.below (by omega)
        clear Hlow Hq HS Hw
        have Hlow := Hlow'
        clear Hlow'
        have Hq := Hq'
        clear Hq'
        have HS := HS'
        clear HS'
        have Hw := Hw'
        clear Hw'
        have Hh := Hhn
        clear Hhn hmk hhd hgl hgh hglh hwl hsl hslow
        have e2 : decide (1 + 2 * (fsz kw : Int) < 0) = false := decide_eq_false (by omega)
        have e3 : ((1 + 2 * (fsz kw : Int)) != (1 + 2 * (fsz kw : Int))) = false := by simp
        have qh0 := Hh.out.c0
        have qh1 := Hh.out.c1
        have qh2 := Hh.out.c2
        go_wp2_with fail
        with_reducible refine (heldTerm_any sw vw ag cg kw (w7.heap.size + 1) w8.heap.size 1 _ Hh.out.hd (by omega) (by omega) (by omega) (by have := Hh.out.hb; have := Hh.out.lt; omega)).mono ?_
        rintro e w18 ⟨rfl, hb⟩
        clear qh0 qh1 qh2
        have Hlow' : Hid (Below w.heap.size w w18) := low_next Hlow.out hb
        have Hq' : Hid (Tq (w.heap.size + 1) w.heap.size s v a c k w18) := Hq.out.next hb
        have HS' : Hid (Rw (w.heap.size + 1) bs A w18) := HS.out.next hb
        have Hw' : Hid (Tq wew.heap.size bbw sw vw aw cw kw w18) := Hw.out.next hb
        have Hh' : Hid (Yh (w7.heap.size + 1) w8.heap.size w8.heap.size sw vw ag cg kw 1 w18) := Hh.out.next hb
        clear Hlow Hq HS Hw Hh
        have Hlow := Hlow'
        clear Hlow'
        have Hq := Hq'
        clear Hq'
        have HS := HS'
        clear HS'
        have Hw := Hw'
        clear Hw'
        have Hh := Hh'
        clear Hh'
        clear hb
        have hu0 : ∀ u : After w18.heap.size w18, u.world.cell? ⟨w.heap.size, 0, none⟩ = some (.int .i64 s) := fun u => cell_low u.below Hq.out.c0
        have hu1 : ∀ u : After w18.heap.size w18, u.world.cell? ⟨w.heap.size, 1, none⟩ = some (.int .i64 v) := fun u => cell_low u.below Hq.out.c1
        have hu2 : ∀ u : After w18.heap.size w18, u.world.cell? ⟨w.heap.size, 2, none⟩ = some (.slice a (flen k) c) := fun u => cell_low u.below Hq.out.c2
        go_wp2_with fail
        refine wp_region_anyT (fun w' => ∃ u : After w18.heap.size w18, w' = u.world) (by kernel_rfl) ?_
        have HBD : Hid (Below w18.heap.size w18 w18.drew) := (Below.refl _ _).drew
        generalize w18.drew = wdh at *
        refine anyT_look (i := 0) rfl (by kernel_rfl) ⟨⟨_, HBD.out⟩, rfl⟩ (fun K hK => ?_)
        go_simp
        refine hK _ ?_
        clear hK K
        refine anyT_look (i := 2) rfl (by kernel_rfl) ⟨⟨_, HBD.out⟩, rfl⟩ (fun K hK => ?_)
        go_simp
        refine hK _ ?_
        clear hK K
        clear hu0 hu1 hu2
        refine anyT_two (i := 1) (j := 8) (by kernel_rfl) rfl rfl (fun K hK => ?_) (fun K hK => ?_)
        · go_simp
          with_reducible refine (toBindS_any bs A C _ (HS.out.next HBD.out).top (by omega) HZB.out).mono ?_
          rintro e w19 ⟨A5h, C5h, rfl, hb, hs5⟩
          have HR5 := Lib.hid (hs5.bsl.mono (lo' := 0) (Nat.zero_le _) (Nat.le_refl _))
          clear hs5
          replace HBD := Lib.hid (low_next HBD.out hb)
          refine hK _ _ ⟨⟨_, HBD.out⟩, rfl⟩ ?_
          clear hK K hb
          refine anyT_two (i := 3) (j := 8) (by kernel_rfl) rfl rfl (fun K hK => ?_) (fun K hK => ?_)
          · go_simp
            with_reducible refine (toTerm_any (Hq.out.next HBD.out).top hN).mono ?_
            rintro e w20 ⟨a6h, c6h, rfl, hb, hl6⟩
            replace HR5 := Lib.hid ((HR5.out.below hb).mono (Nat.le_refl _) (hb).size)
            have HT6 := Lib.hid (hl6.mono (lo' := 0) (Nat.zero_le _) (Nat.le_refl _))
            clear hl6
            replace HBD := Lib.hid (low_next HBD.out hb)
            refine hK _ _ ⟨⟨_, HBD.out⟩, rfl⟩ ?_
            clear hK K hb
            refine anyT_two (i := 4) (j := 8) (by kernel_rfl) rfl rfl (fun K hK => ?_) (fun K hK => ?_)
            · go_simp
              with_reducible refine (iSubstDo_any bs A5h C5h s v a6h c6h k _ HR5.out (by omega) HT6.out).mono ?_
              rintro e w21 ⟨am, cm, sm, vm, km, tm, hdm, rfl, hb, hlx⟩
              rw [HDw.out] at hdm
              simp only [Prod.mk.injEq] at hdm
              obtain ⟨rfl, rfl, rfl, rfl⟩ := hdm
              have hhi := hb.size
              replace HT6 := Lib.hid ((HT6.out.below hb).mono (Nat.le_refl _) (hb).size)
              replace HR5 := Lib.hid ((HR5.out.below hb).mono (Nat.le_refl _) (hb).size)
              have HLX := Lib.hid hlx
              clear hlx HR5 HT6
              replace HBD := Lib.hid (low_next HBD.out hb)
              refine hK _ _ ⟨⟨_, HBD.out⟩, rfl⟩ ?_
              clear hK K hb
              refine anyT_look (i := 5) rfl (by kernel_rfl) ⟨⟨_, HBD.out⟩, rfl⟩ (fun K hK => ?_)
              go_simp
              refine hK _ ?_
              clear hK K
              refine anyT_look (i := 6) rfl (by kernel_rfl) ⟨⟨_, HBD.out⟩, rfl⟩ (fun K hK => ?_)
              go_simp
              refine hK _ ?_
              clear hK K
              refine anyT_look (i := 7) rfl (by kernel_rfl) ⟨⟨_, HBD.out⟩, rfl⟩ (fun K hK => ?_)
              go_simp
              refine hK _ ?_
              clear hK K
              refine anyT_one (i := 8) (by kernel_rfl) rfl (fun K hK => ?_)
              go_simp
              have HZ := Lib.hid (zb_new w21)
              have hbz : w18.heap.size ≤ w21.heap.size := HBD.out.size
              have hbe : Below w21.heap.size w21 (w21.alloc (.cells #[.int .i64 0, .int .i64 0, .slice none 0 0] 28)) := (Below.refl _ _).alloc (Nat.le_refl _) _
              have hze := hbe.size
              replace HLX := Lib.hid (HLX.out.below hbe)
              replace HBD := Lib.hid (low_next HBD.out hbe)
              refine hK _ _ ⟨⟨_, HBD.out⟩, rfl⟩ ?_
              clear hK K hbe
              generalize hwz : w21.alloc (.cells #[.int .i64 0, .int .i64 0, .slice none 0 0] 28) = wzh at *
              clear hwz
              have hzz0 := HZ.out.z0
              have hzz1 := HZ.out.z1
              have hzz2 := HZ.out.z2
              have hzf0 := HZ.out.f 0
              have hzf1 := HZ.out.f 1
              have hzf2 := HZ.out.f 2
              have HFIN : Hid (Below w18.heap.size w18 (((wzh.setCell ⟨w21.heap.size, 0, none⟩ (.int .i64 sw)).setCell ⟨w21.heap.size, 1, none⟩ (.int .i64 vw)).setCell ⟨w21.heap.size, 2, none⟩ (.slice am (flen kw) cm)) ∧ Tb w21.heap.size sw vw am cm kw (((wzh.setCell ⟨w21.heap.size, 0, none⟩ (.int .i64 sw)).setCell ⟨w21.heap.size, 1, none⟩ (.int .i64 vw)).setCell ⟨w21.heap.size, 2, none⟩ (.slice am (flen kw) cm))) := zb_fin HZ.out HBD.out hbz HLX.out hze (.inr (Nat.le_refl _))
              refine anyT_one (i := 9) (by kernel_rfl) rfl (fun K hK => ?_)
              go_simp
              refine hK _ _ ⟨⟨_, HFIN.out.1⟩, rfl⟩ ?_
              clear hK K hzz0 hzz1 hzz2 hzf0 hzf1 hzf2
              refine anyT_one (i := 10) (by kernel_rfl) rfl (fun K hK => ?_)
              go_simp
              refine hK _ _ ⟨⟨_, HFIN.out.1⟩, rfl⟩ ?_
              clear hK K
              refine anyT_done (by kernel_rfl) ?_
              have HBE := Lib.hid HFIN.out.1
              have HTB := Lib.hid HFIN.out.2
              clear HFIN HZ HLX HBD
              generalize (((wzh.setCell ⟨w21.heap.size, 0, none⟩ (.int .i64 sw)).setCell ⟨w21.heap.size, 1, none⟩ (.int .i64 vw)).setCell ⟨w21.heap.size, 2, none⟩ (.slice am (flen kw) cm)) = weh at *
              have Hlow' : Hid (Below w.heap.size w weh) := low_next Hlow.out HBE.out
              have Hq' : Hid (Tq (w.heap.size + 1) w.heap.size s v a c k weh) := Hq.out.next HBE.out
              have HS' : Hid (Rw (w.heap.size + 1) bs A weh) := HS.out.next HBE.out
              have Hw' : Hid (Tq wew.heap.size bbw sw vw aw cw kw weh) := Hw.out.next HBE.out
              have Hh' : Hid (Yh (w7.heap.size + 1) w8.heap.size w8.heap.size sw vw ag cg kw 1 weh) := Hh.out.next HBE.out
              clear Hlow Hq HS Hw Hh
              have Hlow := Hlow'
              clear Hlow'
              have Hq := Hq'
              clear Hq'
              have HS := HS'
              clear HS'
              have Hw := Hw'
              clear Hw'
              have Hh := Hh'
              clear Hh'
              have hbzlh : w21.heap.size < weh.heap.size := World.block_lt_of_cell? _ _ HTB.out.c0
              obtain ⟨bbh, hbb⟩ : ∃ b, b = w21.heap.size := ⟨_, rfl⟩
              rw [← hbb] at HTB hbzlh ⊢
              have Hm : Hid (Tq weh.heap.size bbh sw vw am cm kw weh) := ⟨HTB.out.c0, HTB.out.c1, HTB.out.c2, hbzlh, HTB.out.sl, Nat.le_refl _⟩
              clear HBE HTB hbb hbzlh hbz
              have qm0 := Hm.out.c0
              have qm1 := Hm.out.c1
              have qm2 := Hm.out.c2
              have qw0 := Hw.out.c0
              have qw1 := Hw.out.c1
              have qw2 := Hw.out.c2
              go_wp2_with fail
              with_reducible refine (eqTerm_any (k := kw) Hm.out.top Hw.out.top (by omega)).mono ?_
              rintro e w22 ⟨rfl, hb⟩
              clear qm0 qm1 qm2 qw0 qw1 qw2
              have Hlow' : Hid (Below w.heap.size w w22) := low_next Hlow.out hb
              have Hq' : Hid (Tq (w.heap.size + 1) w.heap.size s v a c k w22) := Hq.out.next hb
              have HS' : Hid (Rw (w.heap.size + 1) bs A w22) := HS.out.next hb
              have Hw' : Hid (Tq wew.heap.size bbw sw vw aw cw kw w22) := Hw.out.next hb
              have Hh' : Hid (Yh (w7.heap.size + 1) w8.heap.size w8.heap.size sw vw ag cg kw 1 w22) := Hh.out.next hb
              have Hm' : Hid (Tq weh.heap.size bbh sw vw am cm kw w22) := Hm.out.next hb
              clear Hlow Hq HS Hw Hh Hm
              have Hlow := Hlow'
              clear Hlow'
              have Hq := Hq'
              clear Hq'
              have HS := HS'
              clear HS'
              have Hw := Hw'
              clear Hw'
              have Hh := Hh'
              clear Hh'
              have Hm := Hm'
              clear Hm'
              clear hb
              have qh0 := Hh.out.c0
              have qh1 := Hh.out.c1
              have qh2 := Hh.out.c2
              go_wp2_with fail
              with_reducible refine (heldTerm_any sw vw ag cg kw (w7.heap.size + 1) w8.heap.size 1 _ Hh.out.hd (by omega) (by omega) (by omega) (by have := Hh.out.hb; have := Hh.out.lt; omega)).mono ?_
              rintro e w23 ⟨rfl, hb⟩
              clear qh0 qh1 qh2
              have Hlow' : Hid (Below w.heap.size w w23) := low_next Hlow.out hb
              have Hq' : Hid (Tq (w.heap.size + 1) w.heap.size s v a c k w23) := Hq.out.next hb
              have HS' : Hid (Rw (w.heap.size + 1) bs A w23) := HS.out.next hb
              have Hw' : Hid (Tq wew.heap.size bbw sw vw aw cw kw w23) := Hw.out.next hb
              have Hh' : Hid (Yh (w7.heap.size + 1) w8.heap.size w8.heap.size sw vw ag cg kw 1 w23) := Hh.out.next hb
              have Hm' : Hid (Tq weh.heap.size bbh sw vw am cm kw w23) := Hm.out.next hb
              clear Hlow Hq HS Hw Hh Hm
              have Hlow := Hlow'
              clear Hlow'
              have Hq := Hq'
              clear Hq'
              have HS := HS'
              clear HS'
              have Hw := Hw'
              clear Hw'
              have Hh := Hh'
              clear Hh'
              have Hm := Hm'
              clear Hm'
              clear hb
              go_wp2_with fail
              go_ret
              exact ⟨rfl, Hlow.out⟩
            · go_simp
              have HZ := Lib.hid (zb_new w20)
              have hbz : w18.heap.size ≤ w20.heap.size := HBD.out.size
              have hbe : Below w20.heap.size w20 (w20.alloc (.cells #[.int .i64 0, .int .i64 0, .slice none 0 0] 28)) := (Below.refl _ _).alloc (Nat.le_refl _) _
              replace HT6 := Lib.hid ((HT6.out.below hbe).mono (Nat.le_refl _) (hbe).size)
              replace HR5 := Lib.hid ((HR5.out.below hbe).mono (Nat.le_refl _) (hbe).size)
              replace HBD := Lib.hid (low_next HBD.out hbe)
              refine hK _ _ ⟨⟨_, HBD.out⟩, rfl⟩ ?_
              clear hK K hbe
              generalize hwz : w20.alloc (.cells #[.int .i64 0, .int .i64 0, .slice none 0 0] 28) = wzh at *
              clear hwz
              refine anyT_one (i := 4) (by kernel_rfl) rfl (fun K hK => ?_)
              go_simp
              with_reducible refine (iSubstDo_any bs A5h C5h s v a6h c6h k _ HR5.out (by omega) HT6.out).mono ?_
              rintro e w24 ⟨am, cm, sm, vm, km, tm, hdm, rfl, hb, hlx⟩
              rw [HDw.out] at hdm
              simp only [Prod.mk.injEq] at hdm
              obtain ⟨rfl, rfl, rfl, rfl⟩ := hdm
              have hzl := HZ.out.lt
              have hhi := hb.size
              replace HT6 := Lib.hid ((HT6.out.below hb).mono (Nat.le_refl _) (hb).size)
              replace HR5 := Lib.hid ((HR5.out.below hb).mono (Nat.le_refl _) (hb).size)
              replace HZ := Lib.hid (HZ.out.low hb)
              have HLX := Lib.hid hlx
              clear hlx HR5 HT6
              replace HBD := Lib.hid (low_next HBD.out hb)
              refine hK _ _ ⟨⟨_, HBD.out⟩, rfl⟩ ?_
              clear hK K hb
              refine anyT_look (i := 5) rfl (by kernel_rfl) ⟨⟨_, HBD.out⟩, rfl⟩ (fun K hK => ?_)
              go_simp
              refine hK _ ?_
              clear hK K
              refine anyT_look (i := 6) rfl (by kernel_rfl) ⟨⟨_, HBD.out⟩, rfl⟩ (fun K hK => ?_)
              go_simp
              refine hK _ ?_
              clear hK K
              refine anyT_look (i := 7) rfl (by kernel_rfl) ⟨⟨_, HBD.out⟩, rfl⟩ (fun K hK => ?_)
              go_simp
              refine hK _ ?_
              clear hK K
              have hzz0 := HZ.out.z0
              have hzz1 := HZ.out.z1
              have hzz2 := HZ.out.z2
              have hzf0 := HZ.out.f 0
              have hzf1 := HZ.out.f 1
              have hzf2 := HZ.out.f 2
              have HFIN : Hid (Below w18.heap.size w18 (((w24.setCell ⟨w20.heap.size, 0, none⟩ (.int .i64 sw)).setCell ⟨w20.heap.size, 1, none⟩ (.int .i64 vw)).setCell ⟨w20.heap.size, 2, none⟩ (.slice am (flen kw) cm)) ∧ Tb w20.heap.size sw vw am cm kw (((w24.setCell ⟨w20.heap.size, 0, none⟩ (.int .i64 sw)).setCell ⟨w20.heap.size, 1, none⟩ (.int .i64 vw)).setCell ⟨w20.heap.size, 2, none⟩ (.slice am (flen kw) cm))) := zb_fin HZ.out HBD.out hbz HLX.out (Nat.le_refl _) (.inl hzl)
              refine anyT_one (i := 9) (by kernel_rfl) rfl (fun K hK => ?_)
              go_simp
              refine hK _ _ ⟨⟨_, HFIN.out.1⟩, rfl⟩ ?_
              clear hK K hzz0 hzz1 hzz2 hzf0 hzf1 hzf2
              refine anyT_one (i := 10) (by kernel_rfl) rfl (fun K hK => ?_)
              go_simp
              refine hK _ _ ⟨⟨_, HFIN.out.1⟩, rfl⟩ ?_
              clear hK K
              refine anyT_done (by kernel_rfl) ?_
              have HBE := Lib.hid HFIN.out.1
              have HTB := Lib.hid HFIN.out.2
              clear HFIN HZ HLX HBD
              generalize (((w24.setCell ⟨w20.heap.size, 0, none⟩ (.int .i64 sw)).setCell ⟨w20.heap.size, 1, none⟩ (.int .i64 vw)).setCell ⟨w20.heap.size, 2, none⟩ (.slice am (flen kw) cm)) = weh at *
              have Hlow' : Hid (Below w.heap.size w weh) := low_next Hlow.out HBE.out
              have Hq' : Hid (Tq (w.heap.size + 1) w.heap.size s v a c k weh) := Hq.out.next HBE.out
              have HS' : Hid (Rw (w.heap.size + 1) bs A weh) := HS.out.next HBE.out
              have Hw' : Hid (Tq wew.heap.size bbw sw vw aw cw kw weh) := Hw.out.next HBE.out
              have Hh' : Hid (Yh (w7.heap.size + 1) w8.heap.size w8.heap.size sw vw ag cg kw 1 weh) := Hh.out.next HBE.out
              clear Hlow Hq HS Hw Hh
              have Hlow := Hlow'
              clear Hlow'
              have Hq := Hq'
              clear Hq'
              have HS := HS'
              clear HS'
              have Hw := Hw'
              clear Hw'
              have Hh := Hh'
              clear Hh'
              have hbzlh : w20.heap.size < weh.heap.size := World.block_lt_of_cell? _ _ HTB.out.c0
              obtain ⟨bbh, hbb⟩ : ∃ b, b = w20.heap.size := ⟨_, rfl⟩
              rw [← hbb] at HTB hbzlh ⊢
              have Hm : Hid (Tq weh.heap.size bbh sw vw am cm kw weh) := ⟨HTB.out.c0, HTB.out.c1, HTB.out.c2, hbzlh, HTB.out.sl, Nat.le_refl _⟩
              clear HBE HTB hbb hbzlh hbz
              have qm0 := Hm.out.c0
              have qm1 := Hm.out.c1
              have qm2 := Hm.out.c2
              have qw0 := Hw.out.c0
              have qw1 := Hw.out.c1
              have qw2 := Hw.out.c2
              go_wp2_with fail
              with_reducible refine (eqTerm_any (k := kw) Hm.out.top Hw.out.top (by omega)).mono ?_
              rintro e w25 ⟨rfl, hb⟩
              clear qm0 qm1 qm2 qw0 qw1 qw2
              have Hlow' : Hid (Below w.heap.size w w25) := low_next Hlow.out hb
              have Hq' : Hid (Tq (w.heap.size + 1) w.heap.size s v a c k w25) := Hq.out.next hb
              have HS' : Hid (Rw (w.heap.size + 1) bs A w25) := HS.out.next hb
              have Hw' : Hid (Tq wew.heap.size bbw sw vw aw cw kw w25) := Hw.out.next hb
              have Hh' : Hid (Yh (w7.heap.size + 1) w8.heap.size w8.heap.size sw vw ag cg kw 1 w25) := Hh.out.next hb
              have Hm' : Hid (Tq weh.heap.size bbh sw vw am cm kw w25) := Hm.out.next hb
              clear Hlow Hq HS Hw Hh Hm
              have Hlow := Hlow'
              clear Hlow'
              have Hq := Hq'
              clear Hq'
              have HS := HS'
              clear HS'
              have Hw := Hw'
              clear Hw'
              have Hh := Hh'
              clear Hh'
              have Hm := Hm'
              clear Hm'
              clear hb
              have qh0 := Hh.out.c0
              have qh1 := Hh.out.c1
              have qh2 := Hh.out.c2
              go_wp2_with fail
              with_reducible refine (heldTerm_any sw vw ag cg kw (w7.heap.size + 1) w8.heap.size 1 _ Hh.out.hd (by omega) (by omega) (by omega) (by have := Hh.out.hb; have := Hh.out.lt; omega)).mono ?_
              rintro e w26 ⟨rfl, hb⟩
              clear qh0 qh1 qh2
              have Hlow' : Hid (Below w.heap.size w w26) := low_next Hlow.out hb
              have Hq' : Hid (Tq (w.heap.size + 1) w.heap.size s v a c k w26) := Hq.out.next hb
              have HS' : Hid (Rw (w.heap.size + 1) bs A w26) := HS.out.next hb
              have Hw' : Hid (Tq wew.heap.size bbw sw vw aw cw kw w26) := Hw.out.next hb
              have Hh' : Hid (Yh (w7.heap.size + 1) w8.heap.size w8.heap.size sw vw ag cg kw 1 w26) := Hh.out.next hb
              have Hm' : Hid (Tq weh.heap.size bbh sw vw am cm kw w26) := Hm.out.next hb
              clear Hlow Hq HS Hw Hh Hm
              have Hlow := Hlow'
              clear Hlow'
              have Hq := Hq'
              clear Hq'
              have HS := HS'
              clear HS'
              have Hw := Hw'
              clear Hw'
              have Hh := Hh'
              clear Hh'
              have Hm := Hm'
              clear Hm'
              clear hb
              go_wp2_with fail
              go_ret
              exact ⟨rfl, Hlow.out⟩
          · go_simp
            have HZ := Lib.hid (zb_new w19)
            have hbz : w18.heap.size ≤ w19.heap.size := HBD.out.size
            have hbe : Below w19.heap.size w19 (w19.alloc (.cells #[.int .i64 0, .int .i64 0, .slice none 0 0] 28)) := (Below.refl _ _).alloc (Nat.le_refl _) _
            replace HR5 := Lib.hid ((HR5.out.below hbe).mono (Nat.le_refl _) (hbe).size)
            replace HBD := Lib.hid (low_next HBD.out hbe)
            refine hK _ _ ⟨⟨_, HBD.out⟩, rfl⟩ ?_
            clear hK K hbe
            generalize hwz : w19.alloc (.cells #[.int .i64 0, .int .i64 0, .slice none 0 0] 28) = wzh at *
            clear hwz
            refine anyT_one (i := 3) (by kernel_rfl) rfl (fun K hK => ?_)
            go_simp
            with_reducible refine (toTerm_any (Hq.out.next HBD.out).top hN).mono ?_
            rintro e w27 ⟨a6h, c6h, rfl, hb, hl6⟩
            replace HR5 := Lib.hid ((HR5.out.below hb).mono (Nat.le_refl _) (hb).size)
            replace HZ := Lib.hid (HZ.out.low hb)
            have HT6 := Lib.hid (hl6.mono (lo' := 0) (Nat.zero_le _) (Nat.le_refl _))
            clear hl6
            replace HBD := Lib.hid (low_next HBD.out hb)
            refine hK _ _ ⟨⟨_, HBD.out⟩, rfl⟩ ?_
            clear hK K hb
            refine anyT_one (i := 4) (by kernel_rfl) rfl (fun K hK => ?_)
            go_simp
            with_reducible refine (iSubstDo_any bs A5h C5h s v a6h c6h k _ HR5.out (by omega) HT6.out).mono ?_
            rintro e w28 ⟨am, cm, sm, vm, km, tm, hdm, rfl, hb, hlx⟩
            rw [HDw.out] at hdm
            simp only [Prod.mk.injEq] at hdm
            obtain ⟨rfl, rfl, rfl, rfl⟩ := hdm
            have hzl := HZ.out.lt
            have hhi := hb.size
            replace HT6 := Lib.hid ((HT6.out.below hb).mono (Nat.le_refl _) (hb).size)
            replace HR5 := Lib.hid ((HR5.out.below hb).mono (Nat.le_refl _) (hb).size)
            replace HZ := Lib.hid (HZ.out.low hb)
            have HLX := Lib.hid hlx
            clear hlx HR5 HT6
            replace HBD := Lib.hid (low_next HBD.out hb)
            refine hK _ _ ⟨⟨_, HBD.out⟩, rfl⟩ ?_
            clear hK K hb
            refine anyT_look (i := 5) rfl (by kernel_rfl) ⟨⟨_, HBD.out⟩, rfl⟩ (fun K hK => ?_)
            go_simp
            refine hK _ ?_
            clear hK K
            refine anyT_look (i := 6) rfl (by kernel_rfl) ⟨⟨_, HBD.out⟩, rfl⟩ (fun K hK => ?_)
            go_simp
            refine hK _ ?_
            clear hK K
            refine anyT_look (i := 7) rfl (by kernel_rfl) ⟨⟨_, HBD.out⟩, rfl⟩ (fun K hK => ?_)
            go_simp
            refine hK _ ?_
            clear hK K
            have hzz0 := HZ.out.z0
            have hzz1 := HZ.out.z1
            have hzz2 := HZ.out.z2
            have hzf0 := HZ.out.f 0
            have hzf1 := HZ.out.f 1
            have hzf2 := HZ.out.f 2
            have HFIN : Hid (Below w18.heap.size w18 (((w28.setCell ⟨w19.heap.size, 0, none⟩ (.int .i64 sw)).setCell ⟨w19.heap.size, 1, none⟩ (.int .i64 vw)).setCell ⟨w19.heap.size, 2, none⟩ (.slice am (flen kw) cm)) ∧ Tb w19.heap.size sw vw am cm kw (((w28.setCell ⟨w19.heap.size, 0, none⟩ (.int .i64 sw)).setCell ⟨w19.heap.size, 1, none⟩ (.int .i64 vw)).setCell ⟨w19.heap.size, 2, none⟩ (.slice am (flen kw) cm))) := zb_fin HZ.out HBD.out hbz HLX.out (Nat.le_refl _) (.inl hzl)
            refine anyT_one (i := 9) (by kernel_rfl) rfl (fun K hK => ?_)
            go_simp
            refine hK _ _ ⟨⟨_, HFIN.out.1⟩, rfl⟩ ?_
            clear hK K hzz0 hzz1 hzz2 hzf0 hzf1 hzf2
            refine anyT_one (i := 10) (by kernel_rfl) rfl (fun K hK => ?_)
            go_simp
            refine hK _ _ ⟨⟨_, HFIN.out.1⟩, rfl⟩ ?_
            clear hK K
            refine anyT_done (by kernel_rfl) ?_
            have HBE := Lib.hid HFIN.out.1
            have HTB := Lib.hid HFIN.out.2
            clear HFIN HZ HLX HBD
            generalize (((w28.setCell ⟨w19.heap.size, 0, none⟩ (.int .i64 sw)).setCell ⟨w19.heap.size, 1, none⟩ (.int .i64 vw)).setCell ⟨w19.heap.size, 2, none⟩ (.slice am (flen kw) cm)) = weh at *
            have Hlow' : Hid (Below w.heap.size w weh) := low_next Hlow.out HBE.out
            have Hq' : Hid (Tq (w.heap.size + 1) w.heap.size s v a c k weh) := Hq.out.next HBE.out
            have HS' : Hid (Rw (w.heap.size + 1) bs A weh) := HS.out.next HBE.out
            have Hw' : Hid (Tq wew.heap.size bbw sw vw aw cw kw weh) := Hw.out.next HBE.out
            have Hh' : Hid (Yh (w7.heap.size + 1) w8.heap.size w8.heap.size sw vw ag cg kw 1 weh) := Hh.out.next HBE.out
            clear Hlow Hq HS Hw Hh
            have Hlow := Hlow'
            clear Hlow'
            have Hq := Hq'
            clear Hq'
            have HS := HS'
            clear HS'
            have Hw := Hw'
            clear Hw'
            have Hh := Hh'
            clear Hh'
            have hbzlh : w19.heap.size < weh.heap.size := World.block_lt_of_cell? _ _ HTB.out.c0
            obtain ⟨bbh, hbb⟩ : ∃ b, b = w19.heap.size := ⟨_, rfl⟩
            rw [← hbb] at HTB hbzlh ⊢
            have Hm : Hid (Tq weh.heap.size bbh sw vw am cm kw weh) := ⟨HTB.out.c0, HTB.out.c1, HTB.out.c2, hbzlh, HTB.out.sl, Nat.le_refl _⟩
            clear HBE HTB hbb hbzlh hbz
            have qm0 := Hm.out.c0
            have qm1 := Hm.out.c1
            have qm2 := Hm.out.c2
            have qw0 := Hw.out.c0
            have qw1 := Hw.out.c1
            have qw2 := Hw.out.c2
            go_wp2_with fail
            with_reducible refine (eqTerm_any (k := kw) Hm.out.top Hw.out.top (by omega)).mono ?_
            rintro e w29 ⟨rfl, hb⟩
            clear qm0 qm1 qm2 qw0 qw1 qw2
            have Hlow' : Hid (Below w.heap.size w w29) := low_next Hlow.out hb
            have Hq' : Hid (Tq (w.heap.size + 1) w.heap.size s v a c k w29) := Hq.out.next hb
            have HS' : Hid (Rw (w.heap.size + 1) bs A w29) := HS.out.next hb
            have Hw' : Hid (Tq wew.heap.size bbw sw vw aw cw kw w29) := Hw.out.next hb
            have Hh' : Hid (Yh (w7.heap.size + 1) w8.heap.size w8.heap.size sw vw ag cg kw 1 w29) := Hh.out.next hb
            have Hm' : Hid (Tq weh.heap.size bbh sw vw am cm kw w29) := Hm.out.next hb
            clear Hlow Hq HS Hw Hh Hm
            have Hlow := Hlow'
            clear Hlow'
            have Hq := Hq'
            clear Hq'
            have HS := HS'
            clear HS'
            have Hw := Hw'
            clear Hw'
            have Hh := Hh'
            clear Hh'
            have Hm := Hm'
            clear Hm'
            clear hb
            have qh0 := Hh.out.c0
            have qh1 := Hh.out.c1
            have qh2 := Hh.out.c2
            go_wp2_with fail
            with_reducible refine (heldTerm_any sw vw ag cg kw (w7.heap.size + 1) w8.heap.size 1 _ Hh.out.hd (by omega) (by omega) (by omega) (by have := Hh.out.hb; have := Hh.out.lt; omega)).mono ?_
            rintro e w30 ⟨rfl, hb⟩
            clear qh0 qh1 qh2
            have Hlow' : Hid (Below w.heap.size w w30) := low_next Hlow.out hb
            have Hq' : Hid (Tq (w.heap.size + 1) w.heap.size s v a c k w30) := Hq.out.next hb
            have HS' : Hid (Rw (w.heap.size + 1) bs A w30) := HS.out.next hb
            have Hw' : Hid (Tq wew.heap.size bbw sw vw aw cw kw w30) := Hw.out.next hb
            have Hh' : Hid (Yh (w7.heap.size + 1) w8.heap.size w8.heap.size sw vw ag cg kw 1 w30) := Hh.out.next hb
            have Hm' : Hid (Tq weh.heap.size bbh sw vw am cm kw w30) := Hm.out.next hb
            clear Hlow Hq HS Hw Hh Hm
            have Hlow := Hlow'
            clear Hlow'
            have Hq := Hq'
            clear Hq'
            have HS := HS'
            clear HS'
            have Hw := Hw'
            clear Hw'
            have Hh := Hh'
            clear Hh'
            have Hm := Hm'
            clear Hm'
            clear hb
            go_wp2_with fail
            go_ret
            exact ⟨rfl, Hlow.out⟩
        · go_simp
          have HZ := Lib.hid (zb_new wdh)
          have hbz : w18.heap.size ≤ wdh.heap.size := HBD.out.size
          have hbe : Below wdh.heap.size wdh (wdh.alloc (.cells #[.int .i64 0, .int .i64 0, .slice none 0 0] 28)) := (Below.refl _ _).alloc (Nat.le_refl _) _
          replace HBD := Lib.hid (low_next HBD.out hbe)
          refine hK _ _ ⟨⟨_, HBD.out⟩, rfl⟩ ?_
          clear hK K hbe
          generalize hwz : wdh.alloc (.cells #[.int .i64 0, .int .i64 0, .slice none 0 0] 28) = wzh at *
          clear hwz
          refine anyT_one (i := 1) (by kernel_rfl) rfl (fun K hK => ?_)
          go_simp
          with_reducible refine (toBindS_any bs A C _ (HS.out.next HBD.out).top (by omega) HZB.out).mono ?_
          rintro e w31 ⟨A5h, C5h, rfl, hb, hs5⟩
          replace HZ := Lib.hid (HZ.out.low hb)
          have HR5 := Lib.hid (hs5.bsl.mono (lo' := 0) (Nat.zero_le _) (Nat.le_refl _))
          clear hs5
          replace HBD := Lib.hid (low_next HBD.out hb)
          refine hK _ _ ⟨⟨_, HBD.out⟩, rfl⟩ ?_
          clear hK K hb
          refine anyT_one (i := 3) (by kernel_rfl) rfl (fun K hK => ?_)
          go_simp
          with_reducible refine (toTerm_any (Hq.out.next HBD.out).top hN).mono ?_
          rintro e w32 ⟨a6h, c6h, rfl, hb, hl6⟩
          replace HZ := Lib.hid (HZ.out.low hb)
          replace HR5 := Lib.hid ((HR5.out.below hb).mono (Nat.le_refl _) (hb).size)
          have HT6 := Lib.hid (hl6.mono (lo' := 0) (Nat.zero_le _) (Nat.le_refl _))
          clear hl6
          replace HBD := Lib.hid (low_next HBD.out hb)
          refine hK _ _ ⟨⟨_, HBD.out⟩, rfl⟩ ?_
          clear hK K hb
          refine anyT_one (i := 4) (by kernel_rfl) rfl (fun K hK => ?_)
          go_simp
          with_reducible refine (iSubstDo_any bs A5h C5h s v a6h c6h k _ HR5.out (by omega) HT6.out).mono ?_
          rintro e w33 ⟨am, cm, sm, vm, km, tm, hdm, rfl, hb, hlx⟩
          rw [HDw.out] at hdm
          simp only [Prod.mk.injEq] at hdm
          obtain ⟨rfl, rfl, rfl, rfl⟩ := hdm
          have hzl := HZ.out.lt
          have hhi := hb.size
          replace HT6 := Lib.hid ((HT6.out.below hb).mono (Nat.le_refl _) (hb).size)
          replace HZ := Lib.hid (HZ.out.low hb)
          replace HR5 := Lib.hid ((HR5.out.below hb).mono (Nat.le_refl _) (hb).size)
          have HLX := Lib.hid hlx
          clear hlx HR5 HT6
          replace HBD := Lib.hid (low_next HBD.out hb)
          refine hK _ _ ⟨⟨_, HBD.out⟩, rfl⟩ ?_
          clear hK K hb
          refine anyT_look (i := 5) rfl (by kernel_rfl) ⟨⟨_, HBD.out⟩, rfl⟩ (fun K hK => ?_)
          go_simp
          refine hK _ ?_
          clear hK K
          refine anyT_look (i := 6) rfl (by kernel_rfl) ⟨⟨_, HBD.out⟩, rfl⟩ (fun K hK => ?_)
          go_simp
          refine hK _ ?_
          clear hK K
          refine anyT_look (i := 7) rfl (by kernel_rfl) ⟨⟨_, HBD.out⟩, rfl⟩ (fun K hK => ?_)
          go_simp
          refine hK _ ?_
          clear hK K
          have hzz0 := HZ.out.z0
          have hzz1 := HZ.out.z1
          have hzz2 := HZ.out.z2
          have hzf0 := HZ.out.f 0
          have hzf1 := HZ.out.f 1
          have hzf2 := HZ.out.f 2
          have HFIN : Hid (Below w18.heap.size w18 (((w33.setCell ⟨wdh.heap.size, 0, none⟩ (.int .i64 sw)).setCell ⟨wdh.heap.size, 1, none⟩ (.int .i64 vw)).setCell ⟨wdh.heap.size, 2, none⟩ (.slice am (flen kw) cm)) ∧ Tb wdh.heap.size sw vw am cm kw (((w33.setCell ⟨wdh.heap.size, 0, none⟩ (.int .i64 sw)).setCell ⟨wdh.heap.size, 1, none⟩ (.int .i64 vw)).setCell ⟨wdh.heap.size, 2, none⟩ (.slice am (flen kw) cm))) := zb_fin HZ.out HBD.out hbz HLX.out (Nat.le_refl _) (.inl hzl)
          refine anyT_one (i := 9) (by kernel_rfl) rfl (fun K hK => ?_)
          go_simp
          refine hK _ _ ⟨⟨_, HFIN.out.1⟩, rfl⟩ ?_
          clear hK K hzz0 hzz1 hzz2 hzf0 hzf1 hzf2
          refine anyT_one (i := 10) (by kernel_rfl) rfl (fun K hK => ?_)
          go_simp
          refine hK _ _ ⟨⟨_, HFIN.out.1⟩, rfl⟩ ?_
          clear hK K
          refine anyT_done (by kernel_rfl) ?_
          have HBE := Lib.hid HFIN.out.1
          have HTB := Lib.hid HFIN.out.2
          clear HFIN HZ HLX HBD
          generalize (((w33.setCell ⟨wdh.heap.size, 0, none⟩ (.int .i64 sw)).setCell ⟨wdh.heap.size, 1, none⟩ (.int .i64 vw)).setCell ⟨wdh.heap.size, 2, none⟩ (.slice am (flen kw) cm)) = weh at *
          have Hlow' : Hid (Below w.heap.size w weh) := low_next Hlow.out HBE.out
          have Hq' : Hid (Tq (w.heap.size + 1) w.heap.size s v a c k weh) := Hq.out.next HBE.out
          have HS' : Hid (Rw (w.heap.size + 1) bs A weh) := HS.out.next HBE.out
          have Hw' : Hid (Tq wew.heap.size bbw sw vw aw cw kw weh) := Hw.out.next HBE.out
          have Hh' : Hid (Yh (w7.heap.size + 1) w8.heap.size w8.heap.size sw vw ag cg kw 1 weh) := Hh.out.next HBE.out
          clear Hlow Hq HS Hw Hh
          have Hlow := Hlow'
          clear Hlow'
          have Hq := Hq'
          clear Hq'
          have HS := HS'
          clear HS'
          have Hw := Hw'
          clear Hw'
          have Hh := Hh'
          clear Hh'
          have hbzlh : wdh.heap.size < weh.heap.size := World.block_lt_of_cell? _ _ HTB.out.c0
          obtain ⟨bbh, hbb⟩ : ∃ b, b = wdh.heap.size := ⟨_, rfl⟩
          rw [← hbb] at HTB hbzlh ⊢
          have Hm : Hid (Tq weh.heap.size bbh sw vw am cm kw weh) := ⟨HTB.out.c0, HTB.out.c1, HTB.out.c2, hbzlh, HTB.out.sl, Nat.le_refl _⟩
          clear HBE HTB hbb hbzlh hbz
          have qm0 := Hm.out.c0
          have qm1 := Hm.out.c1
          have qm2 := Hm.out.c2
          have qw0 := Hw.out.c0
          have qw1 := Hw.out.c1
          have qw2 := Hw.out.c2
          go_wp2_with fail
          with_reducible refine (eqTerm_any (k := kw) Hm.out.top Hw.out.top (by omega)).mono ?_
          rintro e w34 ⟨rfl, hb⟩
          clear qm0 qm1 qm2 qw0 qw1 qw2
          have Hlow' : Hid (Below w.heap.size w w34) := low_next Hlow.out hb
          have Hq' : Hid (Tq (w.heap.size + 1) w.heap.size s v a c k w34) := Hq.out.next hb
          have HS' : Hid (Rw (w.heap.size + 1) bs A w34) := HS.out.next hb
          have Hw' : Hid (Tq wew.heap.size bbw sw vw aw cw kw w34) := Hw.out.next hb
          have Hh' : Hid (Yh (w7.heap.size + 1) w8.heap.size w8.heap.size sw vw ag cg kw 1 w34) := Hh.out.next hb
          have Hm' : Hid (Tq weh.heap.size bbh sw vw am cm kw w34) := Hm.out.next hb
          clear Hlow Hq HS Hw Hh Hm
          have Hlow := Hlow'
          clear Hlow'
          have Hq := Hq'
          clear Hq'
          have HS := HS'
          clear HS'
          have Hw := Hw'
          clear Hw'
          have Hh := Hh'
          clear Hh'
          have Hm := Hm'
          clear Hm'
          clear hb
          have qh0 := Hh.out.c0
          have qh1 := Hh.out.c1
          have qh2 := Hh.out.c2
          go_wp2_with fail
          with_reducible refine (heldTerm_any sw vw ag cg kw (w7.heap.size + 1) w8.heap.size 1 _ Hh.out.hd (by omega) (by omega) (by omega) (by have := Hh.out.hb; have := Hh.out.lt; omega)).mono ?_
          rintro e w35 ⟨rfl, hb⟩
          clear qh0 qh1 qh2
          have Hlow' : Hid (Below w.heap.size w w35) := low_next Hlow.out hb
          have Hq' : Hid (Tq (w.heap.size + 1) w.heap.size s v a c k w35) := Hq.out.next hb
          have HS' : Hid (Rw (w.heap.size + 1) bs A w35) := HS.out.next hb
          have Hw' : Hid (Tq wew.heap.size bbw sw vw aw cw kw w35) := Hw.out.next hb
          have Hh' : Hid (Yh (w7.heap.size + 1) w8.heap.size w8.heap.size sw vw ag cg kw 1 w35) := Hh.out.next hb
          have Hm' : Hid (Tq weh.heap.size bbh sw vw am cm kw w35) := Hm.out.next hb
          clear Hlow Hq HS Hw Hh Hm
          have Hlow := Hlow'
          clear Hlow'
          have Hq := Hq'
          clear Hq'
          have HS := HS'
          clear HS'
          have Hw := Hw'
          clear Hw'
          have Hh := Hh'
          clear Hh'
          have Hm := Hm'
          clear Hm'
          clear hb
          go_wp2_with fail
          go_ret
          exact ⟨rfl, Hlow.out⟩
      · go_simp
        have HZ := Lib.hid (zb_new w4)
        have hbz : w2.heap.size ≤ w4.heap.size := HBD.out.size
        have hbe : Below w4.heap.size w4 (w4.alloc (.cells #[.int .i64 0, .int .i64 0, .slice none 0 0] 28)) := (Below.refl _ _).alloc (Nat.le_refl _) _
        replace HT6 := Lib.hid ((HT6.out.below hbe).mono (Nat.le_refl _) (hbe).size)
        replace HR5 := Lib.hid ((HR5.out.below hbe).mono (Nat.le_refl _) (hbe).size)
        replace HBD := Lib.hid (low_next HBD.out hbe)
        refine hK _ _ ⟨⟨_, HBD.out⟩, rfl⟩ ?_
        clear hK K hbe
        generalize hwz : w4.alloc (.cells #[.int .i64 0, .int .i64 0, .slice none 0 0] 28) = wzw at *
        clear hwz
        refine anyT_one (i := 4) (by kernel_rfl) rfl (fun K hK => ?_)
        go_simp
        with_reducible refine (sSubstDo_any bs A5w C5w s v a6w c6w k _ HR5.out (by omega) HT6.out).mono ?_
        rintro e w36 ⟨aw, cw, sw, vw, kw, tw, hdw, rfl, hb, hlx⟩
        have HDw := Lib.hid hdw
        clear hdw
        have hzl := HZ.out.lt
        have hhi := hb.size
        replace HT6 := Lib.hid ((HT6.out.below hb).mono (Nat.le_refl _) (hb).size)
        replace HR5 := Lib.hid ((HR5.out.below hb).mono (Nat.le_refl _) (hb).size)
        replace HZ := Lib.hid (HZ.out.low hb)
        have HLX := Lib.hid hlx
        clear hlx HR5 HT6
        replace HBD := Lib.hid (low_next HBD.out hb)
        refine hK _ _ ⟨⟨_, HBD.out⟩, rfl⟩ ?_
        clear hK K hb
        refine anyT_look (i := 5) rfl (by kernel_rfl) ⟨⟨_, HBD.out⟩, rfl⟩ (fun K hK => ?_)
        go_simp
        refine hK _ ?_
        clear hK K
        refine anyT_look (i := 6) rfl (by kernel_rfl) ⟨⟨_, HBD.out⟩, rfl⟩ (fun K hK => ?_)
        go_simp
        refine hK _ ?_
        clear hK K
        refine anyT_look (i := 7) rfl (by kernel_rfl) ⟨⟨_, HBD.out⟩, rfl⟩ (fun K hK => ?_)
        go_simp
        refine hK _ ?_
        clear hK K
        have hzz0 := HZ.out.z0
        have hzz1 := HZ.out.z1
        have hzz2 := HZ.out.z2
        have hzf0 := HZ.out.f 0
        have hzf1 := HZ.out.f 1
        have hzf2 := HZ.out.f 2
        have HFIN : Hid (Below w2.heap.size w2 (((w36.setCell ⟨w4.heap.size, 0, none⟩ (.int .i64 sw)).setCell ⟨w4.heap.size, 1, none⟩ (.int .i64 vw)).setCell ⟨w4.heap.size, 2, none⟩ (.slice aw (flen kw) cw)) ∧ Tb w4.heap.size sw vw aw cw kw (((w36.setCell ⟨w4.heap.size, 0, none⟩ (.int .i64 sw)).setCell ⟨w4.heap.size, 1, none⟩ (.int .i64 vw)).setCell ⟨w4.heap.size, 2, none⟩ (.slice aw (flen kw) cw))) := zb_fin HZ.out HBD.out hbz HLX.out (Nat.le_refl _) (.inl hzl)
        refine anyT_one (i := 9) (by kernel_rfl) rfl (fun K hK => ?_)
        go_simp
        refine hK _ _ ⟨⟨_, HFIN.out.1⟩, rfl⟩ ?_
        clear hK K hzz0 hzz1 hzz2 hzf0 hzf1 hzf2
        refine anyT_one (i := 10) (by kernel_rfl) rfl (fun K hK => ?_)
        go_simp
        refine hK _ _ ⟨⟨_, HFIN.out.1⟩, rfl⟩ ?_
        clear hK K
        refine anyT_done (by kernel_rfl) ?_
        have HBE := Lib.hid HFIN.out.1
        have HTB := Lib.hid HFIN.out.2
        clear HFIN HZ HLX HBD
        generalize (((w36.setCell ⟨w4.heap.size, 0, none⟩ (.int .i64 sw)).setCell ⟨w4.heap.size, 1, none⟩ (.int .i64 vw)).setCell ⟨w4.heap.size, 2, none⟩ (.slice aw (flen kw) cw)) = wew at *
        have Hlow' : Hid (Below w.heap.size w wew) := low_next Hlow.out HBE.out
        have Hq' : Hid (Tq (w.heap.size + 1) w.heap.size s v a c k wew) := Hq.out.next HBE.out
        have HS' : Hid (Rw (w.heap.size + 1) bs A wew) := HS.out.next HBE.out
        clear Hlow Hq HS
        have Hlow := Hlow'
        clear Hlow'
        have Hq := Hq'
        clear Hq'
        have HS := HS'
        clear HS'
        have hbzlw : w4.heap.size < wew.heap.size := World.block_lt_of_cell? _ _ HTB.out.c0
        obtain ⟨bbw, hbb⟩ : ∃ b, b = w4.heap.size := ⟨_, rfl⟩
        rw [← hbb] at HTB hbzlw ⊢
        have Hw : Hid (Tq wew.heap.size bbw sw vw aw cw kw wew) := ⟨HTB.out.c0, HTB.out.c1, HTB.out.c2, hbzlw, HTB.out.sl, Nat.le_refl _⟩
        clear HBE HTB hbb hbzlw hbz
        clear hz hz2
        have hkw := sdR_sz HDw.out
        have hnw := Hw.out.le
        have hqn := Hq.out.le
        go_wp2_with fail
        with_reducible refine (toBindS_any bs A C _ HS.out.top (by omega) HZB.out).mono ?_
        rintro e w37 ⟨Ax, Cx, rfl, hb, hsx⟩
        have hsz1 := hb.size
        have Hlow' : Hid (Below w.heap.size w w37) := low_next Hlow.out hb
        have Hq' : Hid (Tq (w.heap.size + 1) w.heap.size s v a c k w37) := Hq.out.next hb
        have HS' : Hid (Rw (w.heap.size + 1) bs A w37) := HS.out.next hb
        have Hw' : Hid (Tq wew.heap.size bbw sw vw aw cw kw w37) := Hw.out.next hb
        clear Hlow Hq HS Hw
        have Hlow := Hlow'
        clear Hlow'
        have Hq := Hq'
        clear Hq'
        have HS := HS'
        clear HS'
        have Hw := Hw'
        clear Hw'
        clear hb
        have Hx : Hid (Gs wew.heap.size w37.heap.size bs Ax w37) := ⟨hsx, Nat.le_refl _⟩
        clear hsx
        have qq0 := Hq.out.c0
        have qq1 := Hq.out.c1
        have qq2 := Hq.out.c2
        go_wp2_with fail
        with_reducible refine (toTermT_anyD Hq.out.top hN).mono ?_
        rintro e w38 ⟨ay, cy, rfl, hb, hly⟩
        clear qq0 qq1 qq2
        have hsz2 := hb.size
        have Hlow' : Hid (Below w.heap.size w w38) := low_next Hlow.out hb
        have Hq' : Hid (Tq (w.heap.size + 1) w.heap.size s v a c k w38) := Hq.out.next hb
        have HS' : Hid (Rw (w.heap.size + 1) bs A w38) := HS.out.next hb
        have Hw' : Hid (Tq wew.heap.size bbw sw vw aw cw kw w38) := Hw.out.next hb
        have Hx' : Hid (Gs wew.heap.size w37.heap.size bs Ax w38) := Hx.out.next hb
        clear Hlow Hq HS Hw Hx
        have Hlow := Hlow'
        clear Hlow'
        have Hq := Hq'
        clear Hq'
        have HS := HS'
        clear HS'
        have Hw := Hw'
        clear Hw'
        have Hx := Hx'
        clear Hx'
        clear hb
        have Hyn : Hid (Xb w37.heap.size w38.heap.size w38.heap.size s v ay cy k (w38.alloc (.cells #[.int .i64 s, .int .i64 v, .slice ay (flen k) cy] 28))) := Xb.new hly hsz2 _
        have hb : Below w38.heap.size w38 (w38.alloc (.cells #[.int .i64 s, .int .i64 v, .slice ay (flen k) cy] 28)) := (Below.refl _ _).alloc (Nat.le_refl _) _
        clear hly
        have Hlow' : Hid (Below w.heap.size w (w38.alloc (.cells #[.int .i64 s, .int .i64 v, .slice ay (flen k) cy] 28))) := low_next Hlow.out hb
        have Hq' : Hid (Tq (w.heap.size + 1) w.heap.size s v a c k (w38.alloc (.cells #[.int .i64 s, .int .i64 v, .slice ay (flen k) cy] 28))) := Hq.out.next hb
        have HS' : Hid (Rw (w.heap.size + 1) bs A (w38.alloc (.cells #[.int .i64 s, .int .i64 v, .slice ay (flen k) cy] 28))) := HS.out.next hb
        have Hw' : Hid (Tq wew.heap.size bbw sw vw aw cw kw (w38.alloc (.cells #[.int .i64 s, .int .i64 v, .slice ay (flen k) cy] 28))) := Hw.out.next hb
        have Hx' : Hid (Gs wew.heap.size w37.heap.size bs Ax (w38.alloc (.cells #[.int .i64 s, .int .i64 v, .slice ay (flen k) cy] 28))) := Hx.out.next hb
        clear Hlow Hq HS Hw Hx
        have Hlow := Hlow'
        clear Hlow'
        have Hq := Hq'
        clear Hq'
        have HS := HS'
        clear HS'
        have Hw := Hw'
        clear Hw'
        have Hx := Hx'
        clear Hx'
        have Hy := Hyn
        clear Hyn hb
        have qy0 := Hy.out.c0
        have qy1 := Hy.out.c1
        have qy2 := Hy.out.c2
        go_wp2_with fail
        with_reducible refine (iSubstDoT_any bs Ax Cx s v ay cy k _ Hx.out.top (by omega) Hy.out.top).mono ?_
        rintro e w39 ⟨ag, cg, sg, vg, kg, tg, hdg, rfl, hb, htx⟩
        rw [HDw.out] at hdg
        simp only [Prod.mk.injEq] at hdg
        obtain ⟨rfl, rfl, rfl, rfl⟩ := hdg
        clear qy0 qy1 qy2
        have hsz3 : w38.heap.size + 1 ≤ w39.heap.size := by have h9 := hb.size; simpa using h9
        have Hlow' : Hid (Below w.heap.size w w39) := low_next Hlow.out hb
        have Hq' : Hid (Tq (w.heap.size + 1) w.heap.size s v a c k w39) := Hq.out.next hb
        have HS' : Hid (Rw (w.heap.size + 1) bs A w39) := HS.out.next hb
        have Hw' : Hid (Tq wew.heap.size bbw sw vw aw cw kw w39) := Hw.out.next hb
        have Hx' : Hid (Gs wew.heap.size w37.heap.size bs Ax w39) := Hx.out.next hb
        have Hy' : Hid (Xb w37.heap.size w38.heap.size w38.heap.size s v ay cy k w39) := Hy.out.next hb
        clear Hlow Hq HS Hw Hx Hy
        have Hlow := Hlow'
        clear Hlow'
        have Hq := Hq'
        clear Hq'
        have HS := HS'
        clear HS'
        have Hw := Hw'
        clear Hw'
        have Hx := Hx'
        clear Hx'
        have Hy := Hy'
        clear Hy'
        clear hb
        have hb : Below w39.heap.size w39 (w39.alloc (.cells #[.int .i64 sw, .int .i64 vw, .slice ag (flen kw) cg] 28)) := (Below.refl _ _).alloc (Nat.le_refl _) _
        have Hgn : Hid (Yb (w38.heap.size + 1) w39.heap.size w39.heap.size sw vw ag cg kw (w39.alloc (.cells #[.int .i64 sw, .int .i64 vw, .slice ag (flen kw) cg] 28))) := Yb.new (htx.mono (by simp) (Nat.le_refl _)) hsz3 _
        have Hlow' : Hid (Below w.heap.size w (w39.alloc (.cells #[.int .i64 sw, .int .i64 vw, .slice ag (flen kw) cg] 28))) := low_next Hlow.out hb
        have Hq' : Hid (Tq (w.heap.size + 1) w.heap.size s v a c k (w39.alloc (.cells #[.int .i64 sw, .int .i64 vw, .slice ag (flen kw) cg] 28))) := Hq.out.next hb
        have HS' : Hid (Rw (w.heap.size + 1) bs A (w39.alloc (.cells #[.int .i64 sw, .int .i64 vw, .slice ag (flen kw) cg] 28))) := HS.out.next hb
        have Hw' : Hid (Tq wew.heap.size bbw sw vw aw cw kw (w39.alloc (.cells #[.int .i64 sw, .int .i64 vw, .slice ag (flen kw) cg] 28))) := Hw.out.next hb
        have Hx' : Hid (Gs wew.heap.size w37.heap.size bs Ax (w39.alloc (.cells #[.int .i64 sw, .int .i64 vw, .slice ag (flen kw) cg] 28))) := Hx.out.next hb
        have Hy' : Hid (Xb w37.heap.size w38.heap.size w38.heap.size s v ay cy k (w39.alloc (.cells #[.int .i64 sw, .int .i64 vw, .slice ag (flen kw) cg] 28))) := Hy.out.next hb
        clear Hlow Hq HS Hw Hx Hy
        have Hlow := Hlow'
        clear Hlow'
        have Hq := Hq'
        clear Hq'
        have HS := HS'
        clear HS'
        have Hw := Hw'
        clear Hw'
        have Hx := Hx'
        clear Hx'
        have Hy := Hy'
        clear Hy'
        have Hg := Hgn
        clear Hgn hb htx
        have eb : (tw != tw) = false := by simp
        have qg0 := Hg.out.c0
        have qg1 := Hg.out.c1
        have qg2 := Hg.out.c2
        have qw0 := Hw.out.c0
        have qw1 := Hw.out.c1
        have qw2 := Hw.out.c2
        go_wp2_with fail
        with_reducible refine (eqTerm_any (k := kw) Hg.out.top Hw.out.top (by omega)).mono ?_
        rintro e w40 ⟨rfl, hb⟩
        clear qg0 qg1 qg2 qw0 qw1 qw2
        have Hlow' : Hid (Below w.heap.size w w40) := low_next Hlow.out hb
        have Hq' : Hid (Tq (w.heap.size + 1) w.heap.size s v a c k w40) := Hq.out.next hb
        have HS' : Hid (Rw (w.heap.size + 1) bs A w40) := HS.out.next hb
        have Hw' : Hid (Tq wew.heap.size bbw sw vw aw cw kw w40) := Hw.out.next hb
        have Hx' : Hid (Gs wew.heap.size w37.heap.size bs Ax w40) := Hx.out.next hb
        have Hy' : Hid (Xb w37.heap.size w38.heap.size w38.heap.size s v ay cy k w40) := Hy.out.next hb
        have Hg' : Hid (Yb (w38.heap.size + 1) w39.heap.size w39.heap.size sw vw ag cg kw w40) := Hg.out.next hb
        clear Hlow Hq HS Hw Hx Hy Hg
        have Hlow := Hlow'
        clear Hlow'
        have Hq := Hq'
        clear Hq'
        have HS := HS'
        clear HS'
        have Hw := Hw'
        clear Hw'
        have Hx := Hx'
        clear Hx'
        have Hy := Hy'
        clear Hy'
        have Hg := Hg'
        clear Hg'
        clear hb
        go_wp2_with fail
        with_reducible refine (toBindS_any bs A C _ HS.out.top (by omega) HZB.out).mono ?_
        rintro e w41 ⟨A9, C9, rfl, hb, hs9⟩
        have Hlow' : Hid (Below w.heap.size w w41) := low_next Hlow.out hb
        have Hq' : Hid (Tq (w.heap.size + 1) w.heap.size s v a c k w41) := Hq.out.next hb
        have HS' : Hid (Rw (w.heap.size + 1) bs A w41) := HS.out.next hb
        have Hw' : Hid (Tq wew.heap.size bbw sw vw aw cw kw w41) := Hw.out.next hb
        have Hx' : Hid (Gs wew.heap.size w37.heap.size bs Ax w41) := Hx.out.next hb
        have Hy' : Hid (Xb w37.heap.size w38.heap.size w38.heap.size s v ay cy k w41) := Hy.out.next hb
        have Hg' : Hid (Yb (w38.heap.size + 1) w39.heap.size w39.heap.size sw vw ag cg kw w41) := Hg.out.next hb
        clear Hlow Hq HS Hw Hx Hy Hg
        have Hlow := Hlow'
        clear Hlow'
        have Hq := Hq'
        clear Hq'
        have HS := HS'
        clear HS'
        have Hw := Hw'
        clear Hw'
        have Hx := Hx'
        clear Hx'
        have Hy := Hy'
        clear Hy'
        have Hg := Hg'
        clear Hg'
        clear hb
        have HS9 : Hid (BSl w41 0 w41.heap.size A9 bs) := hs9.bsl.mono (Nat.zero_le _) (Nat.le_refl _)
        clear hs9
        go_wp2_with fail
        with_reducible refine (eqBindS_same bs Ax A9 Cx C9 _ Hx.out.top HS9.out (by omega) HZB.out).mono ?_
        rintro e w42 ⟨rfl, hb⟩
        have Hlow' : Hid (Below w.heap.size w w42) := low_next Hlow.out hb
        have Hq' : Hid (Tq (w.heap.size + 1) w.heap.size s v a c k w42) := Hq.out.next hb
        have HS' : Hid (Rw (w.heap.size + 1) bs A w42) := HS.out.next hb
        have Hw' : Hid (Tq wew.heap.size bbw sw vw aw cw kw w42) := Hw.out.next hb
        have Hx' : Hid (Gs wew.heap.size w37.heap.size bs Ax w42) := Hx.out.next hb
        have Hy' : Hid (Xb w37.heap.size w38.heap.size w38.heap.size s v ay cy k w42) := Hy.out.next hb
        have Hg' : Hid (Yb (w38.heap.size + 1) w39.heap.size w39.heap.size sw vw ag cg kw w42) := Hg.out.next hb
        clear Hlow Hq HS Hw Hx Hy Hg
        have Hlow := Hlow'
        clear Hlow'
        have Hq := Hq'
        clear Hq'
        have HS := HS'
        clear HS'
        have Hw := Hw'
        clear Hw'
        have Hx := Hx'
        clear Hx'
        have Hy := Hy'
        clear Hy'
        have Hg := Hg'
        clear Hg'
        clear hb
        clear HS9
        have hu0 : ∀ u : After w42.heap.size w42, u.world.cell? ⟨w38.heap.size, 0, none⟩ = some (.int .i64 s) := fun u => cell_low u.below Hy.out.c0
        have hu1 : ∀ u : After w42.heap.size w42, u.world.cell? ⟨w38.heap.size, 1, none⟩ = some (.int .i64 v) := fun u => cell_low u.below Hy.out.c1
        have hu2 : ∀ u : After w42.heap.size w42, u.world.cell? ⟨w38.heap.size, 2, none⟩ = some (.slice ay (flen k) cy) := fun u => cell_low u.below Hy.out.c2
        have hu3 : ∀ u : After w42.heap.size w42, u.world.cell? ⟨w.heap.size, 0, none⟩ = some (.int .i64 s) := fun u => cell_low u.below Hq.out.c0
        have hu4 : ∀ u : After w42.heap.size w42, u.world.cell? ⟨w.heap.size, 1, none⟩ = some (.int .i64 v) := fun u => cell_low u.below Hq.out.c1
        have hu5 : ∀ u : After w42.heap.size w42, u.world.cell? ⟨w.heap.size, 2, none⟩ = some (.slice a (flen k) c) := fun u => cell_low u.below Hq.out.c2
        go_wp2_with fail
        refine wp_region_mix (fun w' => ∃ u : After w42.heap.size w42, w' = u.world) [] [(0, 0), (1, 0), (2, 1), (3, 1), (4, 0)] (by kernel_rfl) (by kernel_rfl) ⟨⟨_, (Below.refl _ _).drew⟩, rfl⟩ ?_
        have HBD : Hid (Below w42.heap.size w42 w42.drew) := (Below.refl _ _).drew
        generalize w42.drew = wd at *
        refine mix_see rfl (fun K hK => ?_)
        go_simp
        refine hK _ ?_
        clear hK K
        refine mix_see rfl (fun K hK => ?_)
        go_simp
        refine hK _ ?_
        clear hK K
        refine mix_hold rfl (fun K hK => ?_)
        go_simp
        with_reducible refine (toTerm_any (Hq.out.next HBD.out).top hN).mono ?_
        rintro e w43 ⟨aq9, cq9, rfl, hb, hl9⟩
        have HT9 := Lib.hid (hl9.mono (lo' := 0) (Nat.zero_le _) (Nat.le_refl _))
        clear hl9
        replace HBD := Lib.hid (low_next HBD.out hb)
        refine hK _ _ ⟨⟨_, HBD.out⟩, rfl⟩ ?_
        clear hK K hb
        refine mix_hold rfl (fun K hK => ?_)
        go_simp
        with_reducible refine (eqTerm_any (k := k) (Hy.out.next HBD.out).top HT9.out hN).mono ?_
        rintro e w44 ⟨rfl, hb⟩
        clear HT9
        replace HBD := Lib.hid (low_next HBD.out hb)
        refine hK _ _ ⟨⟨_, HBD.out⟩, rfl⟩ ?_
        clear hK K hb
        refine mix_see rfl (fun K hK => ?_)
        go_simp
        refine hK _ ?_
        clear hK K
        refine mix_end ?_
        clear hu0 hu1 hu2 hu3 hu4 hu5
        have Hlow' : Hid (Below w.heap.size w w44) := low_next Hlow.out HBD.out
        have Hq' : Hid (Tq (w.heap.size + 1) w.heap.size s v a c k w44) := Hq.out.next HBD.out
        have HS' : Hid (Rw (w.heap.size + 1) bs A w44) := HS.out.next HBD.out
        have Hw' : Hid (Tq wew.heap.size bbw sw vw aw cw kw w44) := Hw.out.next HBD.out
        have Hx' : Hid (Gs wew.heap.size w37.heap.size bs Ax w44) := Hx.out.next HBD.out
        have Hy' : Hid (Xb w37.heap.size w38.heap.size w38.heap.size s v ay cy k w44) := Hy.out.next HBD.out
        have Hg' : Hid (Yb (w38.heap.size + 1) w39.heap.size w39.heap.size sw vw ag cg kw w44) := Hg.out.next HBD.out
        clear Hlow Hq HS Hw Hx Hy Hg
        have Hlow := Hlow'
        clear Hlow'
        have Hq := Hq'
        clear Hq'
        have HS := HS'
        clear HS'
        have Hw := Hw'
        clear Hw'
        have Hx := Hx'
        clear Hx'
        have Hy := Hy'
        clear Hy'
        have Hg := Hg'
        clear Hg'
        clear HBD
        have HBXS := Lib.hid Hx.out.bx
        have hxl := Hx.out.le
        have hyl := Hy.out.lt
        have hyh := Hy.out.hb
        have hylh := Hy.out.lh
        have hgl := Hg.out.lt
        have hgh := Hg.out.hb
        have hglh := Hg.out.lh
        have hwl := Hw.out.le
        have hsl := HS.out.le
        go_wp2_with fail
        with_reducible refine (markBindSs_any bs Ax Cx wew.heap.size w37.heap.size 1 _ HBXS.out hxl (by omega) HZB.out (by omega) (by omega) hmc).mono ?_
        rintro e w45 ⟨rfl, hbm, hfar⟩
        have hslow := Hlow.out.size
        clear Hx HBXS
        have Hlow' : Hid (Below w.heap.size w w45) := Hlow.out.trans (hbm.mono (by omega))
        have Hq' : Hid (Tq (w.heap.size + 1) w.heap.size s v a c k w45) := Hq.out.go hbm (by omega)
        have HS' : Hid (Rw (w.heap.size + 1) bs A w45) := HS.out.go hbm (by omega)
        have Hw' : Hid (Tq wew.heap.size bbw sw vw aw cw kw w45) := Hw.out.go hbm (Nat.le_refl _)
        have Hy' : Hid (Xb w37.heap.size w38.heap.size w38.heap.size s v ay cy k w45) := Hy.out.farB hbm.size hfar (by omega)
        have Hg' : Hid (Yb (w38.heap.size + 1) w39.heap.size w39.heap.size sw vw ag cg kw w45) := Hg.out.farB hbm.size hfar (by omega)
        clear Hlow Hq HS Hw Hy Hg
        have Hlow := Hlow'
        clear Hlow'
        have Hq := Hq'
        clear Hq'
        have HS := HS'
        clear HS'
        have Hw := Hw'
        clear Hw'
        have Hy := Hy'
        clear Hy'
        have Hg := Hg'
        clear Hg'
        clear hbm hfar hxl hyl hyh hylh hgl hgh hglh hwl hsl hslow
        have qy0 := Hy.out.c0
        have qy1 := Hy.out.c1
        have qy2 := Hy.out.c2
        have HSX := Lib.hid Hy.out.sx.2
        have hyl := Hy.out.lt
        have hyh := Hy.out.hb
        have hylh := Hy.out.lh
        have hgl := Hg.out.lt
        have hgh := Hg.out.hb
        have hglh := Hg.out.lh
        have hwl := Hw.out.le
        have hsl := HS.out.le
        go_wp2_with fail
        with_reducible refine (markTerm_any s v ay cy k w37.heap.size w38.heap.size (1 + mcn bs) _ HSX.out hN (by omega) (by omega) (by omega) (by omega)).mono ?_
        rintro e w46 ⟨rfl, hmk⟩
        clear qy0 qy1 qy2
        have hslow := Hlow.out.size
        clear Hy HSX
        have Hlow' : Hid (Below w.heap.size w w46) := Hlow.out.trans (hmk.below.mono (by omega))
        have Hq' : Hid (Tq (w.heap.size + 1) w.heap.size s v a c k w46) := Hq.out.go hmk.below (by omega)
        have HS' : Hid (Rw (w.heap.size + 1) bs A w46) := HS.out.go hmk.below (by omega)
        have Hw' : Hid (Tq wew.heap.size bbw sw vw aw cw kw w46) := Hw.out.go hmk.below (by omega)
        have Hg' : Hid (Yb (w38.heap.size + 1) w39.heap.size w39.heap.size sw vw ag cg kw w46) := Hg.out.far hmk (by omega)
        clear Hlow Hq HS Hw Hg
        have Hlow := Hlow'
        clear Hlow'
        have Hq := Hq'
        clear Hq'
        have HS := HS'
        clear HS'
        have Hw := Hw'
        clear Hw'
        have Hg := Hg'
        clear Hg'
        clear hmk hyl hyh hylh hgl hgh hglh hwl hsl hslow
        have e1 : decide (1 + mcn bs + 2 * (fsz k : Int) < 0) = false := decide_eq_false (by omega)
        have qg0 := Hg.out.c0
        have qg1 := Hg.out.c1
        have qg2 := Hg.out.c2
        have qw0 := Hw.out.c0
        have qw1 := Hw.out.c1
        have qw2 := Hw.out.c2
        go_wp2_with fail
        with_reducible refine (eqTerm_any (k := kw) Hg.out.top Hw.out.top (by omega)).mono ?_
        rintro e w47 ⟨rfl, hb⟩
        clear qg0 qg1 qg2 qw0 qw1 qw2
        have Hlow' : Hid (Below w.heap.size w w47) := low_next Hlow.out hb
        have Hq' : Hid (Tq (w.heap.size + 1) w.heap.size s v a c k w47) := Hq.out.next hb
        have HS' : Hid (Rw (w.heap.size + 1) bs A w47) := HS.out.next hb
        have Hw' : Hid (Tq wew.heap.size bbw sw vw aw cw kw w47) := Hw.out.next hb
        have Hg' : Hid (Yb (w38.heap.size + 1) w39.heap.size w39.heap.size sw vw ag cg kw w47) := Hg.out.next hb
        clear Hlow Hq HS Hw Hg
        have Hlow := Hlow'
        clear Hlow'
        have Hq := Hq'
        clear Hq'
        have HS := HS'
        clear HS'
        have Hw := Hw'
        clear Hw'
        have Hg := Hg'
        clear Hg'
        clear hb
        have qg0 := Hg.out.c0
        have qg1 := Hg.out.c1
        have qg2 := Hg.out.c2
        have HTXG := Lib.hid Hg.out.tx.2
        have hgl := Hg.out.lt
        have hgh := Hg.out.hb
        have hglh := Hg.out.lh
        have hwl := Hw.out.le
        have hsl := HS.out.le
        go_wp2_with fail
        with_reducible refine (markTermT_any sw vw ag cg kw (w38.heap.size + 1) w39.heap.size 1 _ HTXG.out (by omega) (by omega) (by omega) hglh (by omega)).mono ?_
        rintro e w48 ⟨rfl, hmk, hhd⟩
        clear qg0 qg1 qg2
        have hslow := Hlow.out.size
        have Hhn : Hid (Yh (w38.heap.size + 1) w39.heap.size w39.heap.size sw vw ag cg kw 1 w48) := Hg.out.held hmk hhd
        clear Hg HTXG
        have Hlow' : Hid (Below w.heap.size w w48) := Hlow.out.trans (hmk.below.mono (by omega))
        have Hq' : Hid (Tq (w.heap.size + 1) w.heap.size s v a c k w48) := Hq.out.go hmk.below (by omega)
        have HS' : Hid (Rw (w.heap.size + 1) bs A w48) := HS.out.go hmk.below (by omega)
        have Hw' : Hid (Tq wew.heap.size bbw sw vw aw cw kw w48) := Hw.out.go hmk.below (by omega)
        clear Hlow Hq HS Hw
        have Hlow := Hlow'
        clear Hlow'
        have Hq := Hq'
        clear Hq'
        have HS := HS'
        clear HS'
        have Hw := Hw'
        clear Hw'
        have Hh := Hhn
        clear Hhn hmk hhd hgl hgh hglh hwl hsl hslow
        have e2 : decide (1 + 2 * (fsz kw : Int) < 0) = false := decide_eq_false (by omega)
        have e3 : ((1 + 2 * (fsz kw : Int)) != (1 + 2 * (fsz kw : Int))) = false := by simp
        have qh0 := Hh.out.c0
        have qh1 := Hh.out.c1
        have qh2 := Hh.out.c2
        go_wp2_with fail
        with_reducible refine (heldTerm_any sw vw ag cg kw (w38.heap.size + 1) w39.heap.size 1 _ Hh.out.hd (by omega) (by omega) (by omega) (by have := Hh.out.hb; have := Hh.out.lt; omega)).mono ?_
        rintro e w49 ⟨rfl, hb⟩
        clear qh0 qh1 qh2
        have Hlow' : Hid (Below w.heap.size w w49) := low_next Hlow.out hb
        have Hq' : Hid (Tq (w.heap.size + 1) w.heap.size s v a c k w49) := Hq.out.next hb
        have HS' : Hid (Rw (w.heap.size + 1) bs A w49) := HS.out.next hb
        have Hw' : Hid (Tq wew.heap.size bbw sw vw aw cw kw w49) := Hw.out.next hb
        have Hh' : Hid (Yh (w38.heap.size + 1) w39.heap.size w39.heap.size sw vw ag cg kw 1 w49) := Hh.out.next hb
        clear Hlow Hq HS Hw Hh
        have Hlow := Hlow'
        clear Hlow'
        have Hq := Hq'
        clear Hq'
        have HS := HS'
        clear HS'
        have Hw := Hw'
        clear Hw'
        have Hh := Hh'
        clear Hh'
        clear hb
        have hu0 : ∀ u : After w49.heap.size w49, u.world.cell? ⟨w.heap.size, 0, none⟩ = some (.int .i64 s) := fun u => cell_low u.below Hq.out.c0
        have hu1 : ∀ u : After w49.heap.size w49, u.world.cell? ⟨w.heap.size, 1, none⟩ = some (.int .i64 v) := fun u => cell_low u.below Hq.out.c1
        have hu2 : ∀ u : After w49.heap.size w49, u.world.cell? ⟨w.heap.size, 2, none⟩ = some (.slice a (flen k) c) := fun u => cell_low u.below Hq.out.c2
        go_wp2_with fail
        refine wp_region_anyT (fun w' => ∃ u : After w49.heap.size w49, w' = u.world) (by kernel_rfl) ?_
        have HBD : Hid (Below w49.heap.size w49 w49.drew) := (Below.refl _ _).drew
        generalize w49.drew = wdh at *
        refine anyT_look (i := 0) rfl (by kernel_rfl) ⟨⟨_, HBD.out⟩, rfl⟩ (fun K hK => ?_)
        go_simp
        refine hK _ ?_
        clear hK K
        refine anyT_look (i := 2) rfl (by kernel_rfl) ⟨⟨_, HBD.out⟩, rfl⟩ (fun K hK => ?_)
        go_simp
        refine hK _ ?_
        clear hK K
        clear hu0 hu1 hu2
        refine anyT_two (i := 1) (j := 8) (by kernel_rfl) rfl rfl (fun K hK => ?_) (fun K hK => ?_)
        · go_simp
          with_reducible refine (toBindS_any bs A C _ (HS.out.next HBD.out).top (by omega) HZB.out).mono ?_
          rintro e w50 ⟨A5h, C5h, rfl, hb, hs5⟩
          have HR5 := Lib.hid (hs5.bsl.mono (lo' := 0) (Nat.zero_le _) (Nat.le_refl _))
          clear hs5
          replace HBD := Lib.hid (low_next HBD.out hb)
          refine hK _ _ ⟨⟨_, HBD.out⟩, rfl⟩ ?_
          clear hK K hb
          refine anyT_two (i := 3) (j := 8) (by kernel_rfl) rfl rfl (fun K hK => ?_) (fun K hK => ?_)
          · go_simp
            with_reducible refine (toTerm_any (Hq.out.next HBD.out).top hN).mono ?_
            rintro e w51 ⟨a6h, c6h, rfl, hb, hl6⟩
            replace HR5 := Lib.hid ((HR5.out.below hb).mono (Nat.le_refl _) (hb).size)
            have HT6 := Lib.hid (hl6.mono (lo' := 0) (Nat.zero_le _) (Nat.le_refl _))
            clear hl6
            replace HBD := Lib.hid (low_next HBD.out hb)
            refine hK _ _ ⟨⟨_, HBD.out⟩, rfl⟩ ?_
            clear hK K hb
            refine anyT_two (i := 4) (j := 8) (by kernel_rfl) rfl rfl (fun K hK => ?_) (fun K hK => ?_)
            · go_simp
              with_reducible refine (iSubstDo_any bs A5h C5h s v a6h c6h k _ HR5.out (by omega) HT6.out).mono ?_
              rintro e w52 ⟨am, cm, sm, vm, km, tm, hdm, rfl, hb, hlx⟩
              rw [HDw.out] at hdm
              simp only [Prod.mk.injEq] at hdm
              obtain ⟨rfl, rfl, rfl, rfl⟩ := hdm
              have hhi := hb.size
              replace HT6 := Lib.hid ((HT6.out.below hb).mono (Nat.le_refl _) (hb).size)
              replace HR5 := Lib.hid ((HR5.out.below hb).mono (Nat.le_refl _) (hb).size)
              have HLX := Lib.hid hlx
              clear hlx HR5 HT6
              replace HBD := Lib.hid (low_next HBD.out hb)
              refine hK _ _ ⟨⟨_, HBD.out⟩, rfl⟩ ?_
              clear hK K hb
              refine anyT_look (i := 5) rfl (by kernel_rfl) ⟨⟨_, HBD.out⟩, rfl⟩ (fun K hK => ?_)
              go_simp
              refine hK _ ?_
              clear hK K
              refine anyT_look (i := 6) rfl (by kernel_rfl) ⟨⟨_, HBD.out⟩, rfl⟩ (fun K hK => ?_)
              go_simp
              refine hK _ ?_
              clear hK K
              refine anyT_look (i := 7) rfl (by kernel_rfl) ⟨⟨_, HBD.out⟩, rfl⟩ (fun K hK => ?_)
              go_simp
              refine hK _ ?_
              clear hK K
              refine anyT_one (i := 8) (by kernel_rfl) rfl (fun K hK => ?_)
              go_simp
              have HZ := Lib.hid (zb_new w52)
              have hbz : w49.heap.size ≤ w52.heap.size := HBD.out.size
              have hbe : Below w52.heap.size w52 (w52.alloc (.cells #[.int .i64 0, .int .i64 0, .slice none 0 0] 28)) := (Below.refl _ _).alloc (Nat.le_refl _) _
              have hze := hbe.size
              replace HLX := Lib.hid (HLX.out.below hbe)
              replace HBD := Lib.hid (low_next HBD.out hbe)
              refine hK _ _ ⟨⟨_, HBD.out⟩, rfl⟩ ?_
              clear hK K hbe
              generalize hwz : w52.alloc (.cells #[.int .i64 0, .int .i64 0, .slice none 0 0] 28) = wzh at *
              clear hwz
              have hzz0 := HZ.out.z0
              have hzz1 := HZ.out.z1
              have hzz2 := HZ.out.z2
              have hzf0 := HZ.out.f 0
              have hzf1 := HZ.out.f 1
              have hzf2 := HZ.out.f 2
              have HFIN : Hid (Below w49.heap.size w49 (((wzh.setCell ⟨w52.heap.size, 0, none⟩ (.int .i64 sw)).setCell ⟨w52.heap.size, 1, none⟩ (.int .i64 vw)).setCell ⟨w52.heap.size, 2, none⟩ (.slice am (flen kw) cm)) ∧ Tb w52.heap.size sw vw am cm kw (((wzh.setCell ⟨w52.heap.size, 0, none⟩ (.int .i64 sw)).setCell ⟨w52.heap.size, 1, none⟩ (.int .i64 vw)).setCell ⟨w52.heap.size, 2, none⟩ (.slice am (flen kw) cm))) := zb_fin HZ.out HBD.out hbz HLX.out hze (.inr (Nat.le_refl _))
              refine anyT_one (i := 9) (by kernel_rfl) rfl (fun K hK => ?_)
              go_simp
              refine hK _ _ ⟨⟨_, HFIN.out.1⟩, rfl⟩ ?_
              clear hK K hzz0 hzz1 hzz2 hzf0 hzf1 hzf2
              refine anyT_one (i := 10) (by kernel_rfl) rfl (fun K hK => ?_)
              go_simp
              refine hK _ _ ⟨⟨_, HFIN.out.1⟩, rfl⟩ ?_
              clear hK K
              refine anyT_done (by kernel_rfl) ?_
              have HBE := Lib.hid HFIN.out.1
              have HTB := Lib.hid HFIN.out.2
              clear HFIN HZ HLX HBD
              generalize (((wzh.setCell ⟨w52.heap.size, 0, none⟩ (.int .i64 sw)).setCell ⟨w52.heap.size, 1, none⟩ (.int .i64 vw)).setCell ⟨w52.heap.size, 2, none⟩ (.slice am (flen kw) cm)) = weh at *
              have Hlow' : Hid (Below w.heap.size w weh) := low_next Hlow.out HBE.out
              have Hq' : Hid (Tq (w.heap.size + 1) w.heap.size s v a c k weh) := Hq.out.next HBE.out
              have HS' : Hid (Rw (w.heap.size + 1) bs A weh) := HS.out.next HBE.out
              have Hw' : Hid (Tq wew.heap.size bbw sw vw aw cw kw weh) := Hw.out.next HBE.out
              have Hh' : Hid (Yh (w38.heap.size + 1) w39.heap.size w39.heap.size sw vw ag cg kw 1 weh) := Hh.out.next HBE.out
              clear Hlow Hq HS Hw Hh
              have Hlow := Hlow'
              clear Hlow'
              have Hq := Hq'
              clear Hq'
              have HS := HS'
              clear HS'
              have Hw := Hw'
              clear Hw'
              have Hh := Hh'
              clear Hh'
              have hbzlh : w52.heap.size < weh.heap.size := World.block_lt_of_cell? _ _ HTB.out.c0
              obtain ⟨bbh, hbb⟩ : ∃ b, b = w52.heap.size := ⟨_, rfl⟩
              rw [← hbb] at HTB hbzlh ⊢
              have Hm : Hid (Tq weh.heap.size bbh sw vw am cm kw weh) := ⟨HTB.out.c0, HTB.out.c1, HTB.out.c2, hbzlh, HTB.out.sl, Nat.le_refl _⟩
              clear HBE HTB hbb hbzlh hbz
              have qm0 := Hm.out.c0
              have qm1 := Hm.out.c1
              have qm2 := Hm.out.c2
              have qw0 := Hw.out.c0
              have qw1 := Hw.out.c1
              have qw2 := Hw.out.c2
              go_wp2_with fail
              with_reducible refine (eqTerm_any (k := kw) Hm.out.top Hw.out.top (by omega)).mono ?_
              rintro e w53 ⟨rfl, hb⟩
              clear qm0 qm1 qm2 qw0 qw1 qw2
              have Hlow' : Hid (Below w.heap.size w w53) := low_next Hlow.out hb
              have Hq' : Hid (Tq (w.heap.size + 1) w.heap.size s v a c k w53) := Hq.out.next hb
              have HS' : Hid (Rw (w.heap.size + 1) bs A w53) := HS.out.next hb
              have Hw' : Hid (Tq wew.heap.size bbw sw vw aw cw kw w53) := Hw.out.next hb
              have Hh' : Hid (Yh (w38.heap.size + 1) w39.heap.size w39.heap.size sw vw ag cg kw 1 w53) := Hh.out.next hb
              have Hm' : Hid (Tq weh.heap.size bbh sw vw am cm kw w53) := Hm.out.next hb
              clear Hlow Hq HS Hw Hh Hm
              have Hlow := Hlow'
              clear Hlow'
              have Hq := Hq'
              clear Hq'
              have HS := HS'
              clear HS'
              have Hw := Hw'
              clear Hw'
              have Hh := Hh'
              clear Hh'
              have Hm := Hm'
              clear Hm'
              clear hb
              have qh0 := Hh.out.c0
              have qh1 := Hh.out.c1
              have qh2 := Hh.out.c2
              go_wp2_with fail
              with_reducible refine (heldTerm_any sw vw ag cg kw (w38.heap.size + 1) w39.heap.size 1 _ Hh.out.hd (by omega) (by omega) (by omega) (by have := Hh.out.hb; have := Hh.out.lt; omega)).mono ?_
              rintro e w54 ⟨rfl, hb⟩
              clear qh0 qh1 qh2
              have Hlow' : Hid (Below w.heap.size w w54) := low_next Hlow.out hb
              have Hq' : Hid (Tq (w.heap.size + 1) w.heap.size s v a c k w54) := Hq.out.next hb
              have HS' : Hid (Rw (w.heap.size + 1) bs A w54) := HS.out.next hb
              have Hw' : Hid (Tq wew.heap.size bbw sw vw aw cw kw w54) := Hw.out.next hb
              have Hh' : Hid (Yh (w38.heap.size + 1) w39.heap.size w39.heap.size sw vw ag cg kw 1 w54) := Hh.out.next hb
              have Hm' : Hid (Tq weh.heap.size bbh sw vw am cm kw w54) := Hm.out.next hb
              clear Hlow Hq HS Hw Hh Hm
              have Hlow := Hlow'
              clear Hlow'
              have Hq := Hq'
              clear Hq'
              have HS := HS'
              clear HS'
              have Hw := Hw'
              clear Hw'
              have Hh := Hh'
              clear Hh'
              have Hm := Hm'
              clear Hm'
              clear hb
              go_wp2_with fail
              go_ret
              exact ⟨rfl, Hlow.out⟩
            · go_simp
              have HZ := Lib.hid (zb_new w51)
              have hbz : w49.heap.size ≤ w51.heap.size := HBD.out.size
              have hbe : Below w51.heap.size w51 (w51.alloc (.cells #[.int .i64 0, .int .i64 0, .slice none 0 0] 28)) := (Below.refl _ _).alloc (Nat.le_refl _) _
              replace HT6 := Lib.hid ((HT6.out.below hbe).mono (Nat.le_refl _) (hbe).size)
              replace HR5 := Lib.hid ((HR5.out.below hbe).mono (Nat.le_refl _) (hbe).size)
              replace HBD := Lib.hid (low_next HBD.out hbe)
              refine hK _ _ ⟨⟨_, HBD.out⟩, rfl⟩ ?_
              clear hK K hbe
              generalize hwz : w51.alloc (.cells #[.int .i64 0, .int .i64 0, .slice none 0 0] 28) = wzh at *
              clear hwz
              refine anyT_one (i := 4) (by kernel_rfl) rfl (fun K hK => ?_)
              go_simp
              with_reducible refine (iSubstDo_any bs A5h C5h s v a6h c6h k _ HR5.out (by omega) HT6.out).mono ?_
              rintro e w55 ⟨am, cm, sm, vm, km, tm, hdm, rfl, hb, hlx⟩
              rw [HDw.out] at hdm
              simp only [Prod.mk.injEq] at hdm
              obtain ⟨rfl, rfl, rfl, rfl⟩ := hdm
              have hzl := HZ.out.lt
              have hhi := hb.size
              replace HT6 := Lib.hid ((HT6.out.below hb).mono (Nat.le_refl _) (hb).size)
              replace HR5 := Lib.hid ((HR5.out.below hb).mono (Nat.le_refl _) (hb).size)
              replace HZ := Lib.hid (HZ.out.low hb)
              have HLX := Lib.hid hlx
              clear hlx HR5 HT6
              replace HBD := Lib.hid (low_next HBD.out hb)
              refine hK _ _ ⟨⟨_, HBD.out⟩, rfl⟩ ?_
              clear hK K hb
              refine anyT_look (i := 5) rfl (by kernel_rfl) ⟨⟨_, HBD.out⟩, rfl⟩ (fun K hK => ?_)
              go_simp
              refine hK _ ?_
              clear hK K
              refine anyT_look (i := 6) rfl (by kernel_rfl) ⟨⟨_, HBD.out⟩, rfl⟩ (fun K hK => ?_)
              go_simp
              refine hK _ ?_
              clear hK K
              refine anyT_look (i := 7) rfl (by kernel_rfl) ⟨⟨_, HBD.out⟩, rfl⟩ (fun K hK => ?_)
              go_simp
              refine hK _ ?_
              clear hK K
              have hzz0 := HZ.out.z0
              have hzz1 := HZ.out.z1
              have hzz2 := HZ.out.z2
              have hzf0 := HZ.out.f 0
              have hzf1 := HZ.out.f 1
              have hzf2 := HZ.out.f 2
              have HFIN : Hid (Below w49.heap.size w49 (((w55.setCell ⟨w51.heap.size, 0, none⟩ (.int .i64 sw)).setCell ⟨w51.heap.size, 1, none⟩ (.int .i64 vw)).setCell ⟨w51.heap.size, 2, none⟩ (.slice am (flen kw) cm)) ∧ Tb w51.heap.size sw vw am cm kw (((w55.setCell ⟨w51.heap.size, 0, none⟩ (.int .i64 sw)).setCell ⟨w51.heap.size, 1, none⟩ (.int .i64 vw)).setCell ⟨w51.heap.size, 2, none⟩ (.slice am (flen kw) cm))) := zb_fin HZ.out HBD.out hbz HLX.out (Nat.le_refl _) (.inl hzl)
              refine anyT_one (i := 9) (by kernel_rfl) rfl (fun K hK => ?_)
              go_simp
              refine hK _ _ ⟨⟨_, HFIN.out.1⟩, rfl⟩ ?_
              clear hK K hzz0 hzz1 hzz2 hzf0 hzf1 hzf2
              refine anyT_one (i := 10) (by kernel_rfl) rfl (fun K hK => ?_)
              go_simp
              refine hK _ _ ⟨⟨_, HFIN.out.1⟩, rfl⟩ ?_
              clear hK K
              refine anyT_done (by kernel_rfl) ?_
              have HBE := Lib.hid HFIN.out.1
              have HTB := Lib.hid HFIN.out.2
              clear HFIN HZ HLX HBD
              generalize (((w55.setCell ⟨w51.heap.size, 0, none⟩ (.int .i64 sw)).setCell ⟨w51.heap.size, 1, none⟩ (.int .i64 vw)).setCell ⟨w51.heap.size, 2, none⟩ (.slice am (flen kw) cm)) = weh at *
              have Hlow' : Hid (Below w.heap.size w weh) := low_next Hlow.out HBE.out
              have Hq' : Hid (Tq (w.heap.size + 1) w.heap.size s v a c k weh) := Hq.out.next HBE.out
              have HS' : Hid (Rw (w.heap.size + 1) bs A weh) := HS.out.next HBE.out
              have Hw' : Hid (Tq wew.heap.size bbw sw vw aw cw kw weh) := Hw.out.next HBE.out
              have Hh' : Hid (Yh (w38.heap.size + 1) w39.heap.size w39.heap.size sw vw ag cg kw 1 weh) := Hh.out.next HBE.out
              clear Hlow Hq HS Hw Hh
              have Hlow := Hlow'
              clear Hlow'
              have Hq := Hq'
              clear Hq'
              have HS := HS'
              clear HS'
              have Hw := Hw'
              clear Hw'
              have Hh := Hh'
              clear Hh'
              have hbzlh : w51.heap.size < weh.heap.size := World.block_lt_of_cell? _ _ HTB.out.c0
              obtain ⟨bbh, hbb⟩ : ∃ b, b = w51.heap.size := ⟨_, rfl⟩
              rw [← hbb] at HTB hbzlh ⊢
              have Hm : Hid (Tq weh.heap.size bbh sw vw am cm kw weh) := ⟨HTB.out.c0, HTB.out.c1, HTB.out.c2, hbzlh, HTB.out.sl, Nat.le_refl _⟩
              clear HBE HTB hbb hbzlh hbz
              have qm0 := Hm.out.c0
              have qm1 := Hm.out.c1
              have qm2 := Hm.out.c2
              have qw0 := Hw.out.c0
              have qw1 := Hw.out.c1
              have qw2 := Hw.out.c2
              go_wp2_with fail
              with_reducible refine (eqTerm_any (k := kw) Hm.out.top Hw.out.top (by omega)).mono ?_
              rintro e w56 ⟨rfl, hb⟩
              clear qm0 qm1 qm2 qw0 qw1 qw2
              have Hlow' : Hid (Below w.heap.size w w56) := low_next Hlow.out hb
              have Hq' : Hid (Tq (w.heap.size + 1) w.heap.size s v a c k w56) := Hq.out.next hb
              have HS' : Hid (Rw (w.heap.size + 1) bs A w56) := HS.out.next hb
              have Hw' : Hid (Tq wew.heap.size bbw sw vw aw cw kw w56) := Hw.out.next hb
              have Hh' : Hid (Yh (w38.heap.size + 1) w39.heap.size w39.heap.size sw vw ag cg kw 1 w56) := Hh.out.next hb
              have Hm' : Hid (Tq weh.heap.size bbh sw vw am cm kw w56) := Hm.out.next hb
              clear Hlow Hq HS Hw Hh Hm
              have Hlow := Hlow'
              clear Hlow'
              have Hq := Hq'
              clear Hq'
              have HS := HS'
              clear HS'
              have Hw := Hw'
              clear Hw'
              have Hh := Hh'
              clear Hh'
              have Hm := Hm'
              clear Hm'
              clear hb
              have qh0 := Hh.out.c0
              have qh1 := Hh.out.c1
              have qh2 := Hh.out.c2
              go_wp2_with fail
              with_reducible refine (heldTerm_any sw vw ag cg kw (w38.heap.size + 1) w39.heap.size 1 _ Hh.out.hd (by omega) (by omega) (by omega) (by have := Hh.out.hb; have := Hh.out.lt; omega)).mono ?_
              rintro e w57 ⟨rfl, hb⟩
              clear qh0 qh1 qh2
              have Hlow' : Hid (Below w.heap.size w w57) := low_next Hlow.out hb
              have Hq' : Hid (Tq (w.heap.size + 1) w.heap.size s v a c k w57) := Hq.out.next hb
              have HS' : Hid (Rw (w.heap.size + 1) bs A w57) := HS.out.next hb
              have Hw' : Hid (Tq wew.heap.size bbw sw vw aw cw kw w57) := Hw.out.next hb
              have Hh' : Hid (Yh (w38.heap.size + 1) w39.heap.size w39.heap.size sw vw ag cg kw 1 w57) := Hh.out.next hb
              have Hm' : Hid (Tq weh.heap.size bbh sw vw am cm kw w57) := Hm.out.next hb
              clear Hlow Hq HS Hw Hh Hm
              have Hlow := Hlow'
              clear Hlow'
              have Hq := Hq'
              clear Hq'
              have HS := HS'
              clear HS'
              have Hw := Hw'
              clear Hw'
              have Hh := Hh'
              clear Hh'
              have Hm := Hm'
              clear Hm'
              clear hb
              go_wp2_with fail
              go_ret
              exact ⟨rfl, Hlow.out⟩
          · go_simp
            have HZ := Lib.hid (zb_new w50)
            have hbz : w49.heap.size ≤ w50.heap.size := HBD.out.size
            have hbe : Below w50.heap.size w50 (w50.alloc (.cells #[.int .i64 0, .int .i64 0, .slice none 0 0] 28)) := (Below.refl _ _).alloc (Nat.le_refl _) _
            replace HR5 := Lib.hid ((HR5.out.below hbe).mono (Nat.le_refl _) (hbe).size)
            replace HBD := Lib.hid (low_next HBD.out hbe)
            refine hK _ _ ⟨⟨_, HBD.out⟩, rfl⟩ ?_
            clear hK K hbe
            generalize hwz : w50.alloc (.cells #[.int .i64 0, .int .i64 0, .slice none 0 0] 28) = wzh at *
            clear hwz
            refine anyT_one (i := 3) (by kernel_rfl) rfl (fun K hK => ?_)
            go_simp
            with_reducible refine (toTerm_any (Hq.out.next HBD.out).top hN).mono ?_
            rintro e w58 ⟨a6h, c6h, rfl, hb, hl6⟩
            replace HR5 := Lib.hid ((HR5.out.below hb).mono (Nat.le_refl _) (hb).size)
            replace HZ := Lib.hid (HZ.out.low hb)
            have HT6 := Lib.hid (hl6.mono (lo' := 0) (Nat.zero_le _) (Nat.le_refl _))
            clear hl6
            replace HBD := Lib.hid (low_next HBD.out hb)
            refine hK _ _ ⟨⟨_, HBD.out⟩, rfl⟩ ?_
            clear hK K hb
            refine anyT_one (i := 4) (by kernel_rfl) rfl (fun K hK => ?_)
            go_simp
            with_reducible refine (iSubstDo_any bs A5h C5h s v a6h c6h k _ HR5.out (by omega) HT6.out).mono ?_
            rintro e w59 ⟨am, cm, sm, vm, km, tm, hdm, rfl, hb, hlx⟩
            rw [HDw.out] at hdm
            simp only [Prod.mk.injEq] at hdm
            obtain ⟨rfl, rfl, rfl, rfl⟩ := hdm
            have hzl := HZ.out.lt
            have hhi := hb.size
            replace HT6 := Lib.hid ((HT6.out.below hb).mono (Nat.le_refl _) (hb).size)
            replace HR5 := Lib.hid ((HR5.out.below hb).mono (Nat.le_refl _) (hb).size)
            replace HZ := Lib.hid (HZ.out.low hb)
            have HLX := Lib.hid hlx
            clear hlx HR5 HT6
            replace HBD := Lib.hid (low_next HBD.out hb)
            refine hK _ _ ⟨⟨_, HBD.out⟩, rfl⟩ ?_
            clear hK K hb
            refine anyT_look (i := 5) rfl (by kernel_rfl) ⟨⟨_, HBD.out⟩, rfl⟩ (fun K hK => ?_)
            go_simp
            refine hK _ ?_
            clear hK K
            refine anyT_look (i := 6) rfl (by kernel_rfl) ⟨⟨_, HBD.out⟩, rfl⟩ (fun K hK => ?_)
            go_simp
            refine hK _ ?_
            clear hK K
            refine anyT_look (i := 7) rfl (by kernel_rfl) ⟨⟨_, HBD.out⟩, rfl⟩ (fun K hK => ?_)
            go_simp
            refine hK _ ?_
            clear hK K
            have hzz0 := HZ.out.z0
            have hzz1 := HZ.out.z1
            have hzz2 := HZ.out.z2
            have hzf0 := HZ.out.f 0
            have hzf1 := HZ.out.f 1
            have hzf2 := HZ.out.f 2
            have HFIN : Hid (Below w49.heap.size w49 (((w59.setCell ⟨w50.heap.size, 0, none⟩ (.int .i64 sw)).setCell ⟨w50.heap.size, 1, none⟩ (.int .i64 vw)).setCell ⟨w50.heap.size, 2, none⟩ (.slice am (flen kw) cm)) ∧ Tb w50.heap.size sw vw am cm kw (((w59.setCell ⟨w50.heap.size, 0, none⟩ (.int .i64 sw)).setCell ⟨w50.heap.size, 1, none⟩ (.int .i64 vw)).setCell ⟨w50.heap.size, 2, none⟩ (.slice am (flen kw) cm))) := zb_fin HZ.out HBD.out hbz HLX.out (Nat.le_refl _) (.inl hzl)
            refine anyT_one (i := 9) (by kernel_rfl) rfl (fun K hK => ?_)
            go_simp
            refine hK _ _ ⟨⟨_, HFIN.out.1⟩, rfl⟩ ?_
            clear hK K hzz0 hzz1 hzz2 hzf0 hzf1 hzf2
            refine anyT_one (i := 10) (by kernel_rfl) rfl (fun K hK => ?_)
            go_simp
            refine hK _ _ ⟨⟨_, HFIN.out.1⟩, rfl⟩ ?_
            clear hK K
            refine anyT_done (by kernel_rfl) ?_
            have HBE := Lib.hid HFIN.out.1
            have HTB := Lib.hid HFIN.out.2
            clear HFIN HZ HLX HBD
            generalize (((w59.setCell ⟨w50.heap.size, 0, none⟩ (.int .i64 sw)).setCell ⟨w50.heap.size, 1, none⟩ (.int .i64 vw)).setCell ⟨w50.heap.size, 2, none⟩ (.slice am (flen kw) cm)) = weh at *
            have Hlow' : Hid (Below w.heap.size w weh) := low_next Hlow.out HBE.out
            have Hq' : Hid (Tq (w.heap.size + 1) w.heap.size s v a c k weh) := Hq.out.next HBE.out
            have HS' : Hid (Rw (w.heap.size + 1) bs A weh) := HS.out.next HBE.out
            have Hw' : Hid (Tq wew.heap.size bbw sw vw aw cw kw weh) := Hw.out.next HBE.out
            have Hh' : Hid (Yh (w38.heap.size + 1) w39.heap.size w39.heap.size sw vw ag cg kw 1 weh) := Hh.out.next HBE.out
            clear Hlow Hq HS Hw Hh
            have Hlow := Hlow'
            clear Hlow'
            have Hq := Hq'
            clear Hq'
            have HS := HS'
            clear HS'
            have Hw := Hw'
            clear Hw'
            have Hh := Hh'
            clear Hh'
            have hbzlh : w50.heap.size < weh.heap.size := World.block_lt_of_cell? _ _ HTB.out.c0
            obtain ⟨bbh, hbb⟩ : ∃ b, b = w50.heap.size := ⟨_, rfl⟩
            rw [← hbb] at HTB hbzlh ⊢
            have Hm : Hid (Tq weh.heap.size bbh sw vw am cm kw weh) := ⟨HTB.out.c0, HTB.out.c1, HTB.out.c2, hbzlh, HTB.out.sl, Nat.le_refl _⟩
            clear HBE HTB hbb hbzlh hbz
            have qm0 := Hm.out.c0
            have qm1 := Hm.out.c1
            have qm2 := Hm.out.c2
            have qw0 := Hw.out.c0
            have qw1 := Hw.out.c1
            have qw2 := Hw.out.c2
            go_wp2_with fail
            with_reducible refine (eqTerm_any (k := kw) Hm.out.top Hw.out.top (by omega)).mono ?_
            rintro e w60 ⟨rfl, hb⟩
            clear qm0 qm1 qm2 qw0 qw1 qw2
            have Hlow' : Hid (Below w.heap.size w w60) := low_next Hlow.out hb
            have Hq' : Hid (Tq (w.heap.size + 1) w.heap.size s v a c k w60) := Hq.out.next hb
            have HS' : Hid (Rw (w.heap.size + 1) bs A w60) := HS.out.next hb
            have Hw' : Hid (Tq wew.heap.size bbw sw vw aw cw kw w60) := Hw.out.next hb
            have Hh' : Hid (Yh (w38.heap.size + 1) w39.heap.size w39.heap.size sw vw ag cg kw 1 w60) := Hh.out.next hb
            have Hm' : Hid (Tq weh.heap.size bbh sw vw am cm kw w60) := Hm.out.next hb
            clear Hlow Hq HS Hw Hh Hm
            have Hlow := Hlow'
            clear Hlow'
            have Hq := Hq'
            clear Hq'
            have HS := HS'
            clear HS'
            have Hw := Hw'
            clear Hw'
            have Hh := Hh'
            clear Hh'
            have Hm := Hm'
            clear Hm'
            clear hb
            have qh0 := Hh.out.c0
            have qh1 := Hh.out.c1
            have qh2 := Hh.out.c2
            go_wp2_with fail
            with_reducible refine (heldTerm_any sw vw ag cg kw (w38.heap.size + 1) w39.heap.size 1 _ Hh.out.hd (by omega) (by omega) (by omega) (by have := Hh.out.hb; have := Hh.out.lt; omega)).mono ?_
            rintro e w61 ⟨rfl, hb⟩
            clear qh0 qh1 qh2
            have Hlow' : Hid (Below w.heap.size w w61) := low_next Hlow.out hb
            have Hq' : Hid (Tq (w.heap.size + 1) w.heap.size s v a c k w61) := Hq.out.next hb
            have HS' : Hid (Rw (w.heap.size + 1) bs A w61) := HS.out.next hb
            have Hw' : Hid (Tq wew.heap.size bbw sw vw aw cw kw w61) := Hw.out.next hb
            have Hh' : Hid (Yh (w38.heap.size + 1) w39.heap.size w39.heap.size sw vw ag cg kw 1 w61) := Hh.out.next hb
            have Hm' : Hid (Tq weh.heap.size bbh sw vw am cm kw w61) := Hm.out.next hb
            clear Hlow Hq HS Hw Hh Hm
            have Hlow := Hlow'
            clear Hlow'
            have Hq := Hq'
            clear Hq'
            have HS := HS'
            clear HS'
            have Hw := Hw'
            clear Hw'
            have Hh := Hh'
            clear Hh'
            have Hm := Hm'
            clear Hm'
            clear hb
            go_wp2_with fail
            go_ret
            exact ⟨rfl, Hlow.out⟩
        · go_simp
          have HZ := Lib.hid (zb_new wdh)
          have hbz : w49.heap.size ≤ wdh.heap.size := HBD.out.size
          have hbe : Below wdh.heap.size wdh (wdh.alloc (.cells #[.int .i64 0, .int .i64 0, .slice none 0 0] 28)) := (Below.refl _ _).alloc (Nat.le_refl _) _
          replace HBD := Lib.hid (low_next HBD.out hbe)
          refine hK _ _ ⟨⟨_, HBD.out⟩, rfl⟩ ?_
          clear hK K hbe
          generalize hwz : wdh.alloc (.cells #[.int .i64 0, .int .i64 0, .slice none 0 0] 28) = wzh at *
          clear hwz
          refine anyT_one (i := 1) (by kernel_rfl) rfl (fun K hK => ?_)
          go_simp
          with_reducible refine (toBindS_any bs A C _ (HS.out.next HBD.out).top (by omega) HZB.out).mono ?_
          rintro e w62 ⟨A5h, C5h, rfl, hb, hs5⟩
          replace HZ := Lib.hid (HZ.out.low hb)
          have HR5 := Lib.hid (hs5.bsl.mono (lo' := 0) (Nat.zero_le _) (Nat.le_refl _))
          clear hs5
          replace HBD := Lib.hid (low_next HBD.out hb)
          refine hK _ _ ⟨⟨_, HBD.out⟩, rfl⟩ ?_
          clear hK K hb
          refine anyT_one (i := 3) (by kernel_rfl) rfl (fun K hK => ?_)
          go_simp
          with_reducible refine (toTerm_any (Hq.out.next HBD.out).top hN).mono ?_
          rintro e w63 ⟨a6h, c6h, rfl, hb, hl6⟩
          replace HZ := Lib.hid (HZ.out.low hb)
          replace HR5 := Lib.hid ((HR5.out.below hb).mono (Nat.le_refl _) (hb).size)
          have HT6 := Lib.hid (hl6.mono (lo' := 0) (Nat.zero_le _) (Nat.le_refl _))
          clear hl6
          replace HBD := Lib.hid (low_next HBD.out hb)
          refine hK _ _ ⟨⟨_, HBD.out⟩, rfl⟩ ?_
          clear hK K hb
          refine anyT_one (i := 4) (by kernel_rfl) rfl (fun K hK => ?_)
          go_simp
          with_reducible refine (iSubstDo_any bs A5h C5h s v a6h c6h k _ HR5.out (by omega) HT6.out).mono ?_
          rintro e w64 ⟨am, cm, sm, vm, km, tm, hdm, rfl, hb, hlx⟩
          rw [HDw.out] at hdm
          simp only [Prod.mk.injEq] at hdm
          obtain ⟨rfl, rfl, rfl, rfl⟩ := hdm
          have hzl := HZ.out.lt
          have hhi := hb.size
          replace HT6 := Lib.hid ((HT6.out.below hb).mono (Nat.le_refl _) (hb).size)
          replace HZ := Lib.hid (HZ.out.low hb)
          replace HR5 := Lib.hid ((HR5.out.below hb).mono (Nat.le_refl _) (hb).size)
          have HLX := Lib.hid hlx
          clear hlx HR5 HT6
          replace HBD := Lib.hid (low_next HBD.out hb)
          refine hK _ _ ⟨⟨_, HBD.out⟩, rfl⟩ ?_
          clear hK K hb
          refine anyT_look (i := 5) rfl (by kernel_rfl) ⟨⟨_, HBD.out⟩, rfl⟩ (fun K hK => ?_)
          go_simp
          refine hK _ ?_
          clear hK K
          refine anyT_look (i := 6) rfl (by kernel_rfl) ⟨⟨_, HBD.out⟩, rfl⟩ (fun K hK => ?_)
          go_simp
          refine hK _ ?_
          clear hK K
          refine anyT_look (i := 7) rfl (by kernel_rfl) ⟨⟨_, HBD.out⟩, rfl⟩ (fun K hK => ?_)
          go_simp
          refine hK _ ?_
          clear hK K
          have hzz0 := HZ.out.z0
          have hzz1 := HZ.out.z1
          have hzz2 := HZ.out.z2
          have hzf0 := HZ.out.f 0
          have hzf1 := HZ.out.f 1
          have hzf2 := HZ.out.f 2
          have HFIN : Hid (Below w49.heap.size w49 (((w64.setCell ⟨wdh.heap.size, 0, none⟩ (.int .i64 sw)).setCell ⟨wdh.heap.size, 1, none⟩ (.int .i64 vw)).setCell ⟨wdh.heap.size, 2, none⟩ (.slice am (flen kw) cm)) ∧ Tb wdh.heap.size sw vw am cm kw (((w64.setCell ⟨wdh.heap.size, 0, none⟩ (.int .i64 sw)).setCell ⟨wdh.heap.size, 1, none⟩ (.int .i64 vw)).setCell ⟨wdh.heap.size, 2, none⟩ (.slice am (flen kw) cm))) := zb_fin HZ.out HBD.out hbz HLX.out (Nat.le_refl _) (.inl hzl)
          refine anyT_one (i := 9) (by kernel_rfl) rfl (fun K hK => ?_)
          go_simp
          refine hK _ _ ⟨⟨_, HFIN.out.1⟩, rfl⟩ ?_
          clear hK K hzz0 hzz1 hzz2 hzf0 hzf1 hzf2
          refine anyT_one (i := 10) (by kernel_rfl) rfl (fun K hK => ?_)
          go_simp
          refine hK _ _ ⟨⟨_, HFIN.out.1⟩, rfl⟩ ?_
          clear hK K
          refine anyT_done (by kernel_rfl) ?_
          have HBE := Lib.hid HFIN.out.1
          have HTB := Lib.hid HFIN.out.2
          clear HFIN HZ HLX HBD
          generalize (((w64.setCell ⟨wdh.heap.size, 0, none⟩ (.int .i64 sw)).setCell ⟨wdh.heap.size, 1, none⟩ (.int .i64 vw)).setCell ⟨wdh.heap.size, 2, none⟩ (.slice am (flen kw) cm)) = weh at *
          have Hlow' : Hid (Below w.heap.size w weh) := low_next Hlow.out HBE.out
          have Hq' : Hid (Tq (w.heap.size + 1) w.heap.size s v a c k weh) := Hq.out.next HBE.out
          have HS' : Hid (Rw (w.heap.size + 1) bs A weh) := HS.out.next HBE.out
          have Hw' : Hid (Tq wew.heap.size bbw sw vw aw cw kw weh) := Hw.out.next HBE.out
          have Hh' : Hid (Yh (w38.heap.size + 1) w39.heap.size w39.heap.size sw vw ag cg kw 1 weh) := Hh.out.next HBE.out
          clear Hlow Hq HS Hw Hh
          have Hlow := Hlow'
          clear Hlow'
          have Hq := Hq'
          clear Hq'
          have HS := HS'
          clear HS'
          have Hw := Hw'
          clear Hw'
          have Hh := Hh'
          clear Hh'
          have hbzlh : wdh.heap.size < weh.heap.size := World.block_lt_of_cell? _ _ HTB.out.c0
          obtain ⟨bbh, hbb⟩ : ∃ b, b = wdh.heap.size := ⟨_, rfl⟩
          rw [← hbb] at HTB hbzlh ⊢
          have Hm : Hid (Tq weh.heap.size bbh sw vw am cm kw weh) := ⟨HTB.out.c0, HTB.out.c1, HTB.out.c2, hbzlh, HTB.out.sl, Nat.le_refl _⟩
          clear HBE HTB hbb hbzlh hbz
          have qm0 := Hm.out.c0
          have qm1 := Hm.out.c1
          have qm2 := Hm.out.c2
          have qw0 := Hw.out.c0
          have qw1 := Hw.out.c1
          have qw2 := Hw.out.c2
          go_wp2_with fail
          with_reducible refine (eqTerm_any (k := kw) Hm.out.top Hw.out.top (by omega)).mono ?_
          rintro e w65 ⟨rfl, hb⟩
          clear qm0 qm1 qm2 qw0 qw1 qw2
          have Hlow' : Hid (Below w.heap.size w w65) := low_next Hlow.out hb
          have Hq' : Hid (Tq (w.heap.size + 1) w.heap.size s v a c k w65) := Hq.out.next hb
          have HS' : Hid (Rw (w.heap.size + 1) bs A w65) := HS.out.next hb
          have Hw' : Hid (Tq wew.heap.size bbw sw vw aw cw kw w65) := Hw.out.next hb
          have Hh' : Hid (Yh (w38.heap.size + 1) w39.heap.size w39.heap.size sw vw ag cg kw 1 w65) := Hh.out.next hb
          have Hm' : Hid (Tq weh.heap.size bbh sw vw am cm kw w65) := Hm.out.next hb
          clear Hlow Hq HS Hw Hh Hm
          have Hlow := Hlow'
          clear Hlow'
          have Hq := Hq'
          clear Hq'
          have HS := HS'
          clear HS'
          have Hw := Hw'
          clear Hw'
          have Hh := Hh'
          clear Hh'
          have Hm := Hm'
          clear Hm'
          clear hb
          have qh0 := Hh.out.c0
          have qh1 := Hh.out.c1
          have qh2 := Hh.out.c2
          go_wp2_with fail
          with_reducible refine (heldTerm_any sw vw ag cg kw (w38.heap.size + 1) w39.heap.size 1 _ Hh.out.hd (by omega) (by omega) (by omega) (by have := Hh.out.hb; have := Hh.out.lt; omega)).mono ?_
          rintro e w66 ⟨rfl, hb⟩
          clear qh0 qh1 qh2
          have Hlow' : Hid (Below w.heap.size w w66) := low_next Hlow.out hb
          have Hq' : Hid (Tq (w.heap.size + 1) w.heap.size s v a c k w66) := Hq.out.next hb
          have HS' : Hid (Rw (w.heap.size + 1) bs A w66) := HS.out.next hb
          have Hw' : Hid (Tq wew.heap.size bbw sw vw aw cw kw w66) := Hw.out.next hb
          have Hh' : Hid (Yh (w38.heap.size + 1) w39.heap.size w39.heap.size sw vw ag cg kw 1 w66) := Hh.out.next hb
          have Hm' : Hid (Tq weh.heap.size bbh sw vw am cm kw w66) := Hm.out.next hb
          clear Hlow Hq HS Hw Hh Hm
          have Hlow := Hlow'
          clear Hlow'
          have Hq := Hq'
          clear Hq'
          have HS := HS'
          clear HS'
          have Hw := Hw'
          clear Hw'
          have Hh := Hh'
          clear Hh'
          have Hm := Hm'
          clear Hm'
          clear hb
          go_wp2_with fail
          go_ret
          exact ⟨rfl, Hlow.out⟩
    · go_simp
      have HZ := Lib.hid (zb_new w3)
      have hbz : w2.heap.size ≤ w3.heap.size := HBD.out.size
      have hbe : Below w3.heap.size w3 (w3.alloc (.cells #[.int .i64 0, .int .i64 0, .slice none 0 0] 28)) := (Below.refl _ _).alloc (Nat.le_refl _) _
      replace HR5 := Lib.hid ((HR5.out.below hbe).mono (Nat.le_refl _) (hbe).size)
      replace HBD := Lib.hid (low_next HBD.out hbe)
      refine hK _ _ ⟨⟨_, HBD.out⟩, rfl⟩ ?_
      clear hK K hbe
      generalize hwz : w3.alloc (.cells #[.int .i64 0, .int .i64 0, .slice none 0 0] 28) = wzw at *
      clear hwz
      refine anyT_one (i := 3) (by kernel_rfl) rfl (fun K hK => ?_)
      go_simp
      with_reducible refine (toTerm_any (Hq.out.next HBD.out).top hN).mono ?_
      rintro e w67 ⟨a6w, c6w, rfl, hb, hl6⟩
      replace HR5 := Lib.hid ((HR5.out.below hb).mono (Nat.le_refl _) (hb).size)
      replace HZ := Lib.hid (HZ.out.low hb)
      have HT6 := Lib.hid (hl6.mono (lo' := 0) (Nat.zero_le _) (Nat.le_refl _))
      clear hl6
      replace HBD := Lib.hid (low_next HBD.out hb)
      refine hK _ _ ⟨⟨_, HBD.out⟩, rfl⟩ ?_
      clear hK K hb
      refine anyT_one (i := 4) (by kernel_rfl) rfl (fun K hK => ?_)
      go_simp
      with_reducible refine (sSubstDo_any bs A5w C5w s v a6w c6w k _ HR5.out (by omega) HT6.out).mono ?_
      rintro e w68 ⟨aw, cw, sw, vw, kw, tw, hdw, rfl, hb, hlx⟩
      have HDw := Lib.hid hdw
      clear hdw
      have hzl := HZ.out.lt
      have hhi := hb.size
      replace HT6 := Lib.hid ((HT6.out.below hb).mono (Nat.le_refl _) (hb).size)
      replace HR5 := Lib.hid ((HR5.out.below hb).mono (Nat.le_refl _) (hb).size)
      replace HZ := Lib.hid (HZ.out.low hb)
      have HLX := Lib.hid hlx
      clear hlx HR5 HT6
      replace HBD := Lib.hid (low_next HBD.out hb)
      refine hK _ _ ⟨⟨_, HBD.out⟩, rfl⟩ ?_
      clear hK K hb
      refine anyT_look (i := 5) rfl (by kernel_rfl) ⟨⟨_, HBD.out⟩, rfl⟩ (fun K hK => ?_)
      go_simp
      refine hK _ ?_
      clear hK K
      refine anyT_look (i := 6) rfl (by kernel_rfl) ⟨⟨_, HBD.out⟩, rfl⟩ (fun K hK => ?_)
      go_simp
      refine hK _ ?_
      clear hK K
      refine anyT_look (i := 7) rfl (by kernel_rfl) ⟨⟨_, HBD.out⟩, rfl⟩ (fun K hK => ?_)
      go_simp
      refine hK _ ?_
      clear hK K
      have hzz0 := HZ.out.z0
      have hzz1 := HZ.out.z1
      have hzz2 := HZ.out.z2
      have hzf0 := HZ.out.f 0
      have hzf1 := HZ.out.f 1
      have hzf2 := HZ.out.f 2
      have HFIN : Hid (Below w2.heap.size w2 (((w68.setCell ⟨w3.heap.size, 0, none⟩ (.int .i64 sw)).setCell ⟨w3.heap.size, 1, none⟩ (.int .i64 vw)).setCell ⟨w3.heap.size, 2, none⟩ (.slice aw (flen kw) cw)) ∧ Tb w3.heap.size sw vw aw cw kw (((w68.setCell ⟨w3.heap.size, 0, none⟩ (.int .i64 sw)).setCell ⟨w3.heap.size, 1, none⟩ (.int .i64 vw)).setCell ⟨w3.heap.size, 2, none⟩ (.slice aw (flen kw) cw))) := zb_fin HZ.out HBD.out hbz HLX.out (Nat.le_refl _) (.inl hzl)
      refine anyT_one (i := 9) (by kernel_rfl) rfl (fun K hK => ?_)
      go_simp
      refine hK _ _ ⟨⟨_, HFIN.out.1⟩, rfl⟩ ?_
      clear hK K hzz0 hzz1 hzz2 hzf0 hzf1 hzf2
      refine anyT_one (i := 10) (by kernel_rfl) rfl (fun K hK => ?_)
      go_simp
      refine hK _ _ ⟨⟨_, HFIN.out.1⟩, rfl⟩ ?_
      clear hK K
      refine anyT_done (by kernel_rfl) ?_
      have HBE := Lib.hid HFIN.out.1
      have HTB := Lib.hid HFIN.out.2
      clear HFIN HZ HLX HBD
      generalize (((w68.setCell ⟨w3.heap.size, 0, none⟩ (.int .i64 sw)).setCell ⟨w3.heap.size, 1, none⟩ (.int .i64 vw)).setCell ⟨w3.heap.size, 2, none⟩ (.slice aw (flen kw) cw)) = wew at *
      have Hlow' : Hid (Below w.heap.size w wew) := low_next Hlow.out HBE.out
      have Hq' : Hid (Tq (w.heap.size + 1) w.heap.size s v a c k wew) := Hq.out.next HBE.out
      have HS' : Hid (Rw (w.heap.size + 1) bs A wew) := HS.out.next HBE.out
      clear Hlow Hq HS
      have Hlow := Hlow'
      clear Hlow'
      have Hq := Hq'
      clear Hq'
      have HS := HS'
      clear HS'
      have hbzlw : w3.heap.size < wew.heap.size := World.block_lt_of_cell? _ _ HTB.out.c0
      obtain ⟨bbw, hbb⟩ : ∃ b, b = w3.heap.size := ⟨_, rfl⟩
      rw [← hbb] at HTB hbzlw ⊢
      have Hw : Hid (Tq wew.heap.size bbw sw vw aw cw kw wew) := ⟨HTB.out.c0, HTB.out.c1, HTB.out.c2, hbzlw, HTB.out.sl, Nat.le_refl _⟩
      clear HBE HTB hbb hbzlw hbz
      clear hz hz2
      have hkw := sdR_sz HDw.out
      have hnw := Hw.out.le
      have hqn := Hq.out.le
      go_wp2_with fail
      with_reducible refine (toBindS_any bs A C _ HS.out.top (by omega) HZB.out).mono ?_
      rintro e w69 ⟨Ax, Cx, rfl, hb, hsx⟩
      have hsz1 := hb.size
      have Hlow' : Hid (Below w.heap.size w w69) := low_next Hlow.out hb
      have Hq' : Hid (Tq (w.heap.size + 1) w.heap.size s v a c k w69) := Hq.out.next hb
      have HS' : Hid (Rw (w.heap.size + 1) bs A w69) := HS.out.next hb
      have Hw' : Hid (Tq wew.heap.size bbw sw vw aw cw kw w69) := Hw.out.next hb
      clear Hlow Hq HS Hw
      have Hlow := Hlow'
      clear Hlow'
      have Hq := Hq'
      clear Hq'
      have HS := HS'
      clear HS'
      have Hw := Hw'
      clear Hw'
      clear hb
      have Hx : Hid (Gs wew.heap.size w69.heap.size bs Ax w69) := ⟨hsx, Nat.le_refl _⟩
      clear hsx
      have qq0 := Hq.out.c0
      have qq1 := Hq.out.c1
      have qq2 := Hq.out.c2
      go_wp2_with fail
      with_reducible refine (toTermT_anyD Hq.out.top hN).mono ?_
      rintro e w70 ⟨ay, cy, rfl, hb, hly⟩
      clear qq0 qq1 qq2
      have hsz2 := hb.size
      have Hlow' : Hid (Below w.heap.size w w70) := low_next Hlow.out hb
      have Hq' : Hid (Tq (w.heap.size + 1) w.heap.size s v a c k w70) := Hq.out.next hb
      have HS' : Hid (Rw (w.heap.size + 1) bs A w70) := HS.out.next hb
      have Hw' : Hid (Tq wew.heap.size bbw sw vw aw cw kw w70) := Hw.out.next hb
      have Hx' : Hid (Gs wew.heap.size w69.heap.size bs Ax w70) := Hx.out.next hb
      clear Hlow Hq HS Hw Hx
      have Hlow := Hlow'
      clear Hlow'
      have Hq := Hq'
      clear Hq'
      have HS := HS'
      clear HS'
      have Hw := Hw'
      clear Hw'
      have Hx := Hx'
      clear Hx'
      clear hb
      have Hyn : Hid (Xb w69.heap.size w70.heap.size w70.heap.size s v ay cy k (w70.alloc (.cells #[.int .i64 s, .int .i64 v, .slice ay (flen k) cy] 28))) := Xb.new hly hsz2 _
      have hb : Below w70.heap.size w70 (w70.alloc (.cells #[.int .i64 s, .int .i64 v, .slice ay (flen k) cy] 28)) := (Below.refl _ _).alloc (Nat.le_refl _) _
      clear hly
      have Hlow' : Hid (Below w.heap.size w (w70.alloc (.cells #[.int .i64 s, .int .i64 v, .slice ay (flen k) cy] 28))) := low_next Hlow.out hb
      have Hq' : Hid (Tq (w.heap.size + 1) w.heap.size s v a c k (w70.alloc (.cells #[.int .i64 s, .int .i64 v, .slice ay (flen k) cy] 28))) := Hq.out.next hb
      have HS' : Hid (Rw (w.heap.size + 1) bs A (w70.alloc (.cells #[.int .i64 s, .int .i64 v, .slice ay (flen k) cy] 28))) := HS.out.next hb
      have Hw' : Hid (Tq wew.heap.size bbw sw vw aw cw kw (w70.alloc (.cells #[.int .i64 s, .int .i64 v, .slice ay (flen k) cy] 28))) := Hw.out.next hb
      have Hx' : Hid (Gs wew.heap.size w69.heap.size bs Ax (w70.alloc (.cells #[.int .i64 s, .int .i64 v, .slice ay (flen k) cy] 28))) := Hx.out.next hb
      clear Hlow Hq HS Hw Hx
      have Hlow := Hlow'
      clear Hlow'
      have Hq := Hq'
      clear Hq'
      have HS := HS'
      clear HS'
      have Hw := Hw'
      clear Hw'
      have Hx := Hx'
      clear Hx'
      have Hy := Hyn
      clear Hyn hb
      have qy0 := Hy.out.c0
      have qy1 := Hy.out.c1
      have qy2 := Hy.out.c2
      go_wp2_with fail
      with_reducible refine (iSubstDoT_any bs Ax Cx s v ay cy k _ Hx.out.top (by omega) Hy.out.top).mono ?_
      rintro e w71 ⟨ag, cg, sg, vg, kg, tg, hdg, rfl, hb, htx⟩
      rw [HDw.out] at hdg
      simp only [Prod.mk.injEq] at hdg
      obtain ⟨rfl, rfl, rfl, rfl⟩ := hdg
      clear qy0 qy1 qy2
      have hsz3 : w70.heap.size + 1 ≤ w71.heap.size := by have h9 := hb.size; simpa using h9
      have Hlow' : Hid (Below w.heap.size w w71) := low_next Hlow.out hb
      have Hq' : Hid (Tq (w.heap.size + 1) w.heap.size s v a c k w71) := Hq.out.next hb
      have HS' : Hid (Rw (w.heap.size + 1) bs A w71) := HS.out.next hb
      have Hw' : Hid (Tq wew.heap.size bbw sw vw aw cw kw w71) := Hw.out.next hb
      have Hx' : Hid (Gs wew.heap.size w69.heap.size bs Ax w71) := Hx.out.next hb
      have Hy' : Hid (Xb w69.heap.size w70.heap.size w70.heap.size s v ay cy k w71) := Hy.out.next hb
      clear Hlow Hq HS Hw Hx Hy
      have Hlow := Hlow'
      clear Hlow'
      have Hq := Hq'
      clear Hq'
      have HS := HS'
      clear HS'
      have Hw := Hw'
      clear Hw'
      have Hx := Hx'
      clear Hx'
      have Hy := Hy'
      clear Hy'
      clear hb
      have hb : Below w71.heap.size w71 (w71.alloc (.cells #[.int .i64 sw, .int .i64 vw, .slice ag (flen kw) cg] 28)) := (Below.refl _ _).alloc (Nat.le_refl _) _
      have Hgn : Hid (Yb (w70.heap.size + 1) w71.heap.size w71.heap.size sw vw ag cg kw (w71.alloc (.cells #[.int .i64 sw, .int .i64 vw, .slice ag (flen kw) cg] 28))) := Yb.new (htx.mono (by simp) (Nat.le_refl _)) hsz3 _
      have Hlow' : Hid (Below w.heap.size w (w71.alloc (.cells #[.int .i64 sw, .int .i64 vw, .slice ag (flen kw) cg] 28))) := low_next Hlow.out hb
      have Hq' : Hid (Tq (w.heap.size + 1) w.heap.size s v a c k (w71.alloc (.cells #[.int .i64 sw, .int .i64 vw, .slice ag (flen kw) cg] 28))) := Hq.out.next hb
      have HS' : Hid (Rw (w.heap.size + 1) bs A (w71.alloc (.cells #[.int .i64 sw, .int .i64 vw, .slice ag (flen kw) cg] 28))) := HS.out.next hb
      have Hw' : Hid (Tq wew.heap.size bbw sw vw aw cw kw (w71.alloc (.cells #[.int .i64 sw, .int .i64 vw, .slice ag (flen kw) cg] 28))) := Hw.out.next hb
      have Hx' : Hid (Gs wew.heap.size w69.heap.size bs Ax (w71.alloc (.cells #[.int .i64 sw, .int .i64 vw, .slice ag (flen kw) cg] 28))) := Hx.out.next hb
      have Hy' : Hid (Xb w69.heap.size w70.heap.size w70.heap.size s v ay cy k (w71.alloc (.cells #[.int .i64 sw, .int .i64 vw, .slice ag (flen kw) cg] 28))) := Hy.out.next hb
      clear Hlow Hq HS Hw Hx Hy
      have Hlow := Hlow'
      clear Hlow'
      have Hq := Hq'
      clear Hq'
      have HS := HS'
      clear HS'
      have Hw := Hw'
      clear Hw'
      have Hx := Hx'
      clear Hx'
      have Hy := Hy'
      clear Hy'
      have Hg := Hgn
      clear Hgn hb htx
      have eb : (tw != tw) = false := by simp
      have qg0 := Hg.out.c0
      have qg1 := Hg.out.c1
      have qg2 := Hg.out.c2
      have qw0 := Hw.out.c0
      have qw1 := Hw.out.c1
      have qw2 := Hw.out.c2
      go_wp2_with fail
      with_reducible refine (eqTerm_any (k := kw) Hg.out.top Hw.out.top (by omega)).mono ?_
      rintro e w72 ⟨rfl, hb⟩
      clear qg0 qg1 qg2 qw0 qw1 qw2
      have Hlow' : Hid (Below w.heap.size w w72) := low_next Hlow.out hb
      have Hq' : Hid (Tq (w.heap.size + 1) w.heap.size s v a c k w72) := Hq.out.next hb
      have HS' : Hid (Rw (w.heap.size + 1) bs A w72) := HS.out.next hb
      have Hw' : Hid (Tq wew.heap.size bbw sw vw aw cw kw w72) := Hw.out.next hb
      have Hx' : Hid (Gs wew.heap.size w69.heap.size bs Ax w72) := Hx.out.next hb
      have Hy' : Hid (Xb w69.heap.size w70.heap.size w70.heap.size s v ay cy k w72) := Hy.out.next hb
      have Hg' : Hid (Yb (w70.heap.size + 1) w71.heap.size w71.heap.size sw vw ag cg kw w72) := Hg.out.next hb
      clear Hlow Hq HS Hw Hx Hy Hg
      have Hlow := Hlow'
      clear Hlow'
      have Hq := Hq'
      clear Hq'
      have HS := HS'
      clear HS'
      have Hw := Hw'
      clear Hw'
      have Hx := Hx'
      clear Hx'
      have Hy := Hy'
      clear Hy'
      have Hg := Hg'
      clear Hg'
      clear hb
      go_wp2_with fail
      with_reducible refine (toBindS_any bs A C _ HS.out.top (by omega) HZB.out).mono ?_
      rintro e w73 ⟨A9, C9, rfl, hb, hs9⟩
      have Hlow' : Hid (Below w.heap.size w w73) := low_next Hlow.out hb
      have Hq' : Hid (Tq (w.heap.size + 1) w.heap.size s v a c k w73) := Hq.out.next hb
      have HS' : Hid (Rw (w.heap.size + 1) bs A w73) := HS.out.next hb
      have Hw' : Hid (Tq wew.heap.size bbw sw vw aw cw kw w73) := Hw.out.next hb
      have Hx' : Hid (Gs wew.heap.size w69.heap.size bs Ax w73) := Hx.out.next hb
      have Hy' : Hid (Xb w69.heap.size w70.heap.size w70.heap.size s v ay cy k w73) := Hy.out.next hb
      have Hg' : Hid (Yb (w70.heap.size + 1) w71.heap.size w71.heap.size sw vw ag cg kw w73) := Hg.out.next hb
      clear Hlow Hq HS Hw Hx Hy Hg
      have Hlow := Hlow'
      clear Hlow'
      have Hq := Hq'
      clear Hq'
      have HS := HS'
      clear HS'
      have Hw := Hw'
      clear Hw'
      have Hx := Hx'
      clear Hx'
      have Hy := Hy'
      clear Hy'
      have Hg := Hg'
      clear Hg'
      clear hb
      have HS9 : Hid (BSl w73 0 w73.heap.size A9 bs) := hs9.bsl.mono (Nat.zero_le _) (Nat.le_refl _)
      clear hs9
      go_wp2_with fail
      with_reducible refine (eqBindS_same bs Ax A9 Cx C9 _ Hx.out.top HS9.out (by omega) HZB.out).mono ?_
      rintro e w74 ⟨rfl, hb⟩
      have Hlow' : Hid (Below w.heap.size w w74) := low_next Hlow.out hb
      have Hq' : Hid (Tq (w.heap.size + 1) w.heap.size s v a c k w74) := Hq.out.next hb
      have HS' : Hid (Rw (w.heap.size + 1) bs A w74) := HS.out.next hb
      have Hw' : Hid (Tq wew.heap.size bbw sw vw aw cw kw w74) := Hw.out.next hb
      have Hx' : Hid (Gs wew.heap.size w69.heap.size bs Ax w74) := Hx.out.next hb
      have Hy' : Hid (Xb w69.heap.size w70.heap.size w70.heap.size s v ay cy k w74) := Hy.out.next hb
      have Hg' : Hid (Yb (w70.heap.size + 1) w71.heap.size w71.heap.size sw vw ag cg kw w74) := Hg.out.next hb
      clear Hlow Hq HS Hw Hx Hy Hg
      have Hlow := Hlow'
      clear Hlow'
      have Hq := Hq'
      clear Hq'
      have HS := HS'
      clear HS'
      have Hw := Hw'
      clear Hw'
      have Hx := Hx'
      clear Hx'
      have Hy := Hy'
      clear Hy'
      have Hg := Hg'
      clear Hg'
      clear hb
      clear HS9
      have hu0 : ∀ u : After w74.heap.size w74, u.world.cell? ⟨w70.heap.size, 0, none⟩ = some (.int .i64 s) := fun u => cell_low u.below Hy.out.c0
      have hu1 : ∀ u : After w74.heap.size w74, u.world.cell? ⟨w70.heap.size, 1, none⟩ = some (.int .i64 v) := fun u => cell_low u.below Hy.out.c1
      have hu2 : ∀ u : After w74.heap.size w74, u.world.cell? ⟨w70.heap.size, 2, none⟩ = some (.slice ay (flen k) cy) := fun u => cell_low u.below Hy.out.c2
      have hu3 : ∀ u : After w74.heap.size w74, u.world.cell? ⟨w.heap.size, 0, none⟩ = some (.int .i64 s) := fun u => cell_low u.below Hq.out.c0
      have hu4 : ∀ u : After w74.heap.size w74, u.world.cell? ⟨w.heap.size, 1, none⟩ = some (.int .i64 v) := fun u => cell_low u.below Hq.out.c1
      have hu5 : ∀ u : After w74.heap.size w74, u.world.cell? ⟨w.heap.size, 2, none⟩ = some (.slice a (flen k) c) := fun u => cell_low u.below Hq.out.c2
      go_wp2_with fail
      refine wp_region_mix (fun w' => ∃ u : After w74.heap.size w74, w' = u.world) [] [(0, 0), (1, 0), (2, 1), (3, 1), (4, 0)] (by kernel_rfl) (by kernel_rfl) ⟨⟨_, (Below.refl _ _).drew⟩, rfl⟩ ?_
      have HBD : Hid (Below w74.heap.size w74 w74.drew) := (Below.refl _ _).drew
      generalize w74.drew = wd at *
      refine mix_see rfl (fun K hK => ?_)
      go_simp
      refine hK _ ?_
      clear hK K
      refine mix_see rfl (fun K hK => ?_)
      go_simp
      refine hK _ ?_
      clear hK K
      refine mix_hold rfl (fun K hK => ?_)
      go_simp
      with_reducible refine (toTerm_any (Hq.out.next HBD.out).top hN).mono ?_
      rintro e w75 ⟨aq9, cq9, rfl, hb, hl9⟩
      have HT9 := Lib.hid (hl9.mono (lo' := 0) (Nat.zero_le _) (Nat.le_refl _))
      clear hl9
      replace HBD := Lib.hid (low_next HBD.out hb)
      refine hK _ _ ⟨⟨_, HBD.out⟩, rfl⟩ ?_
      clear hK K hb
      refine mix_hold rfl (fun K hK => ?_)
      go_simp
      with_reducible refine (eqTerm_any (k := k) (Hy.out.next HBD.out).top HT9.out hN).mono ?_
      rintro e w76 ⟨rfl, hb⟩
      clear HT9
      replace HBD := Lib.hid (low_next HBD.out hb)
      refine hK _ _ ⟨⟨_, HBD.out⟩, rfl⟩ ?_
      clear hK K hb
      refine mix_see rfl (fun K hK => ?_)
      go_simp
      refine hK _ ?_
      clear hK K
      refine mix_end ?_
      clear hu0 hu1 hu2 hu3 hu4 hu5
      have Hlow' : Hid (Below w.heap.size w w76) := low_next Hlow.out HBD.out
      have Hq' : Hid (Tq (w.heap.size + 1) w.heap.size s v a c k w76) := Hq.out.next HBD.out
      have HS' : Hid (Rw (w.heap.size + 1) bs A w76) := HS.out.next HBD.out
      have Hw' : Hid (Tq wew.heap.size bbw sw vw aw cw kw w76) := Hw.out.next HBD.out
      have Hx' : Hid (Gs wew.heap.size w69.heap.size bs Ax w76) := Hx.out.next HBD.out
      have Hy' : Hid (Xb w69.heap.size w70.heap.size w70.heap.size s v ay cy k w76) := Hy.out.next HBD.out
      have Hg' : Hid (Yb (w70.heap.size + 1) w71.heap.size w71.heap.size sw vw ag cg kw w76) := Hg.out.next HBD.out
      clear Hlow Hq HS Hw Hx Hy Hg
      have Hlow := Hlow'
      clear Hlow'
      have Hq := Hq'
      clear Hq'
      have HS := HS'
      clear HS'
      have Hw := Hw'
      clear Hw'
      have Hx := Hx'
      clear Hx'
      have Hy := Hy'
      clear Hy'
      have Hg := Hg'
      clear Hg'
      clear HBD
      have HBXS := Lib.hid Hx.out.bx
      have hxl := Hx.out.le
      have hyl := Hy.out.lt
      have hyh := Hy.out.hb
      have hylh := Hy.out.lh
      have hgl := Hg.out.lt
      have hgh := Hg.out.hb
      have hglh := Hg.out.lh
      have hwl := Hw.out.le
      have hsl := HS.out.le
      go_wp2_with fail
      with_reducible refine (markBindSs_any bs Ax Cx wew.heap.size w69.heap.size 1 _ HBXS.out hxl (by omega) HZB.out (by omega) (by omega) hmc).mono ?_
      rintro e w77 ⟨rfl, hbm, hfar⟩
      have hslow := Hlow.out.size
      clear Hx HBXS
      have Hlow' : Hid (Below w.heap.size w w77) := Hlow.out.trans (hbm.mono (by omega))
      have Hq' : Hid (Tq (w.heap.size + 1) w.heap.size s v a c k w77) := Hq.out.go hbm (by omega)
      have HS' : Hid (Rw (w.heap.size + 1) bs A w77) := HS.out.go hbm (by omega)
      have Hw' : Hid (Tq wew.heap.size bbw sw vw aw cw kw w77) := Hw.out.go hbm (Nat.le_refl _)
      have Hy' : Hid (Xb w69.heap.size w70.heap.size w70.heap.size s v ay cy k w77) := Hy.out.farB hbm.size hfar (by omega)
      have Hg' : Hid (Yb (w70.heap.size + 1) w71.heap.size w71.heap.size sw vw ag cg kw w77) := Hg.out.farB hbm.size hfar (by omega)
      clear Hlow Hq HS Hw Hy Hg
      have Hlow := Hlow'
      clear Hlow'
      have Hq := Hq'
      clear Hq'
      have HS := HS'
      clear HS'
      have Hw := Hw'
      clear Hw'
      have Hy := Hy'
      clear Hy'
      have Hg := Hg'
      clear Hg'
      clear hbm hfar hxl hyl hyh hylh hgl hgh hglh hwl hsl hslow
      have qy0 := Hy.out.c0
      have qy1 := Hy.out.c1
      have qy2 := Hy.out.c2
      have HSX := Lib.hid Hy.out.sx.2
      have hyl := Hy.out.lt
      have hyh := Hy.out.hb
      have hylh := Hy.out.lh
      have hgl := Hg.out.lt
      have hgh := Hg.out.hb
      have hglh := Hg.out.lh
      have hwl := Hw.out.le
      have hsl := HS.out.le
      go_wp2_with fail
      with_reducible refine (markTerm_any s v ay cy k w69.heap.size w70.heap.size (1 + mcn bs) _ HSX.out hN (by omega) (by omega) (by omega) (by omega)).mono ?_
      rintro e w78 ⟨rfl, hmk⟩
      clear qy0 qy1 qy2
      have hslow := Hlow.out.size
      clear Hy HSX
      have Hlow' : Hid (Below w.heap.size w w78) := Hlow.out.trans (hmk.below.mono (by omega))
      have Hq' : Hid (Tq (w.heap.size + 1) w.heap.size s v a c k w78) := Hq.out.go hmk.below (by omega)
      have HS' : Hid (Rw (w.heap.size + 1) bs A w78) := HS.out.go hmk.below (by omega)
      have Hw' : Hid (Tq wew.heap.size bbw sw vw aw cw kw w78) := Hw.out.go hmk.below (by omega)
      have Hg' : Hid (Yb (w70.heap.size + 1) w71.heap.size w71.heap.size sw vw ag cg kw w78) := Hg.out.far hmk (by omega)
      clear Hlow Hq HS Hw Hg
      have Hlow := Hlow'
      clear Hlow'
      have Hq := Hq'
      clear Hq'
      have HS := HS'
      clear HS'
      have Hw := Hw'
      clear Hw'
      have Hg := Hg'
      clear Hg'
      clear hmk hyl hyh hylh hgl hgh hglh hwl hsl hslow
      have e1 : decide (1 + mcn bs + 2 * (fsz k : Int) < 0) = false := decide_eq_false (by omega)
      have qg0 := Hg.out.c0
      have qg1 := Hg.out.c1
      have qg2 := Hg.out.c2
      have qw0 := Hw.out.c0
      have qw1 := Hw.out.c1
      have qw2 := Hw.out.c2
      go_wp2_with fail
      with_reducible refine (eqTerm_any (k := kw) Hg.out.top Hw.out.top (by omega)).mono ?_
      rintro e w79 ⟨rfl, hb⟩
      clear qg0 qg1 qg2 qw0 qw1 qw2
      have Hlow' : Hid (Below w.heap.size w w79) := low_next Hlow.out hb
      have Hq' : Hid (Tq (w.heap.size + 1) w.heap.size s v a c k w79) := Hq.out.next hb
      have HS' : Hid (Rw (w.heap.size + 1) bs A w79) := HS.out.next hb
      have Hw' : Hid (Tq wew.heap.size bbw sw vw aw cw kw w79) := Hw.out.next hb
      have Hg' : Hid (Yb (w70.heap.size + 1) w71.heap.size w71.heap.size sw vw ag cg kw w79) := Hg.out.next hb
      clear Hlow Hq HS Hw Hg
      have Hlow := Hlow'
      clear Hlow'
      have Hq := Hq'
      clear Hq'
      have HS := HS'
      clear HS'
      have Hw := Hw'
      clear Hw'
      have Hg := Hg'
      clear Hg'
      clear hb
      have qg0 := Hg.out.c0
      have qg1 := Hg.out.c1
      have qg2 := Hg.out.c2
      have HTXG := Lib.hid Hg.out.tx.2
      have hgl := Hg.out.lt
      have hgh := Hg.out.hb
      have hglh := Hg.out.lh
      have hwl := Hw.out.le
      have hsl := HS.out.le
      go_wp2_with fail
      with_reducible refine (markTermT_any sw vw ag cg kw (w70.heap.size + 1) w71.heap.size 1 _ HTXG.out (by omega) (by omega) (by omega) hglh (by omega)).mono ?_
      rintro e w80 ⟨rfl, hmk, hhd⟩
      clear qg0 qg1 qg2
      have hslow := Hlow.out.size
      have Hhn : Hid (Yh (w70.heap.size + 1) w71.heap.size w71.heap.size sw vw ag cg kw 1 w80) := Hg.out.held hmk hhd
      clear Hg HTXG
      have Hlow' : Hid (Below w.heap.size w w80) := Hlow.out.trans (hmk.below.mono (by omega))
      have Hq' : Hid (Tq (w.heap.size + 1) w.heap.size s v a c k w80) := Hq.out.go hmk.below (by omega)
      have HS' : Hid (Rw (w.heap.size + 1) bs A w80) := HS.out.go hmk.below (by omega)
      have Hw' : Hid (Tq wew.heap.size bbw sw vw aw cw kw w80) := Hw.out.go hmk.below (by omega)
      clear Hlow Hq HS Hw
      have Hlow := Hlow'
      clear Hlow'
      have Hq := Hq'
      clear Hq'
      have HS := HS'
      clear HS'
      have Hw := Hw'
      clear Hw'
      have Hh := Hhn
      clear Hhn hmk hhd hgl hgh hglh hwl hsl hslow
      have e2 : decide (1 + 2 * (fsz kw : Int) < 0) = false := decide_eq_false (by omega)
      have e3 : ((1 + 2 * (fsz kw : Int)) != (1 + 2 * (fsz kw : Int))) = false := by simp
      have qh0 := Hh.out.c0
      have qh1 := Hh.out.c1
      have qh2 := Hh.out.c2
      go_wp2_with fail
      with_reducible refine (heldTerm_any sw vw ag cg kw (w70.heap.size + 1) w71.heap.size 1 _ Hh.out.hd (by omega) (by omega) (by omega) (by have := Hh.out.hb; have := Hh.out.lt; omega)).mono ?_
      rintro e w81 ⟨rfl, hb⟩
      clear qh0 qh1 qh2
      have Hlow' : Hid (Below w.heap.size w w81) := low_next Hlow.out hb
      have Hq' : Hid (Tq (w.heap.size + 1) w.heap.size s v a c k w81) := Hq.out.next hb
      have HS' : Hid (Rw (w.heap.size + 1) bs A w81) := HS.out.next hb
      have Hw' : Hid (Tq wew.heap.size bbw sw vw aw cw kw w81) := Hw.out.next hb
      have Hh' : Hid (Yh (w70.heap.size + 1) w71.heap.size w71.heap.size sw vw ag cg kw 1 w81) := Hh.out.next hb
      clear Hlow Hq HS Hw Hh
      have Hlow := Hlow'
      clear Hlow'
      have Hq := Hq'
      clear Hq'
      have HS := HS'
      clear HS'
      have Hw := Hw'
      clear Hw'
      have Hh := Hh'
      clear Hh'
      clear hb
      have hu0 : ∀ u : After w81.heap.size w81, u.world.cell? ⟨w.heap.size, 0, none⟩ = some (.int .i64 s) := fun u => cell_low u.below Hq.out.c0
      have hu1 : ∀ u : After w81.heap.size w81, u.world.cell? ⟨w.heap.size, 1, none⟩ = some (.int .i64 v) := fun u => cell_low u.below Hq.out.c1
      have hu2 : ∀ u : After w81.heap.size w81, u.world.cell? ⟨w.heap.size, 2, none⟩ = some (.slice a (flen k) c) := fun u => cell_low u.below Hq.out.c2
      go_wp2_with fail
      refine wp_region_anyT (fun w' => ∃ u : After w81.heap.size w81, w' = u.world) (by kernel_rfl) ?_
      have HBD : Hid (Below w81.heap.size w81 w81.drew) := (Below.refl _ _).drew
      generalize w81.drew = wdh at *
      refine anyT_look (i := 0) rfl (by kernel_rfl) ⟨⟨_, HBD.out⟩, rfl⟩ (fun K hK => ?_)
      go_simp
      refine hK _ ?_
      clear hK K
      refine anyT_look (i := 2) rfl (by kernel_rfl) ⟨⟨_, HBD.out⟩, rfl⟩ (fun K hK => ?_)
      go_simp
      refine hK _ ?_
      clear hK K
      clear hu0 hu1 hu2
      refine anyT_two (i := 1) (j := 8) (by kernel_rfl) rfl rfl (fun K hK => ?_) (fun K hK => ?_)
      · go_simp
        with_reducible refine (toBindS_any bs A C _ (HS.out.next HBD.out).top (by omega) HZB.out).mono ?_
        rintro e w82 ⟨A5h, C5h, rfl, hb, hs5⟩
        have HR5 := Lib.hid (hs5.bsl.mono (lo' := 0) (Nat.zero_le _) (Nat.le_refl _))
        clear hs5
        replace HBD := Lib.hid (low_next HBD.out hb)
        refine hK _ _ ⟨⟨_, HBD.out⟩, rfl⟩ ?_
        clear hK K hb
        refine anyT_two (i := 3) (j := 8) (by kernel_rfl) rfl rfl (fun K hK => ?_) (fun K hK => ?_)
        · go_simp
          with_reducible refine (toTerm_any (Hq.out.next HBD.out).top hN).mono ?_
          rintro e w83 ⟨a6h, c6h, rfl, hb, hl6⟩
          replace HR5 := Lib.hid ((HR5.out.below hb).mono (Nat.le_refl _) (hb).size)
          have HT6 := Lib.hid (hl6.mono (lo' := 0) (Nat.zero_le _) (Nat.le_refl _))
          clear hl6
          replace HBD := Lib.hid (low_next HBD.out hb)
          refine hK _ _ ⟨⟨_, HBD.out⟩, rfl⟩ ?_
          clear hK K hb
          refine anyT_two (i := 4) (j := 8) (by kernel_rfl) rfl rfl (fun K hK => ?_) (fun K hK => ?_)
          · go_simp
            with_reducible refine (iSubstDo_any bs A5h C5h s v a6h c6h k _ HR5.out (by omega) HT6.out).mono ?_
            rintro e w84 ⟨am, cm, sm, vm, km, tm, hdm, rfl, hb, hlx⟩
            rw [HDw.out] at hdm
            simp only [Prod.mk.injEq] at hdm
            obtain ⟨rfl, rfl, rfl, rfl⟩ := hdm
            have hhi := hb.size
            replace HT6 := Lib.hid ((HT6.out.below hb).mono (Nat.le_refl _) (hb).size)
            replace HR5 := Lib.hid ((HR5.out.below hb).mono (Nat.le_refl _) (hb).size)
            have HLX := Lib.hid hlx
            clear hlx HR5 HT6
            replace HBD := Lib.hid (low_next HBD.out hb)
            refine hK _ _ ⟨⟨_, HBD.out⟩, rfl⟩ ?_
            clear hK K hb
            refine anyT_look (i := 5) rfl (by kernel_rfl) ⟨⟨_, HBD.out⟩, rfl⟩ (fun K hK => ?_)
            go_simp
            refine hK _ ?_
            clear hK K
            refine anyT_look (i := 6) rfl (by kernel_rfl) ⟨⟨_, HBD.out⟩, rfl⟩ (fun K hK => ?_)
            go_simp
            refine hK _ ?_
            clear hK K
            refine anyT_look (i := 7) rfl (by kernel_rfl) ⟨⟨_, HBD.out⟩, rfl⟩ (fun K hK => ?_)
            go_simp
            refine hK _ ?_
            clear hK K
            refine anyT_one (i := 8) (by kernel_rfl) rfl (fun K hK => ?_)
            go_simp
            have HZ := Lib.hid (zb_new w84)
            have hbz : w81.heap.size ≤ w84.heap.size := HBD.out.size
            have hbe : Below w84.heap.size w84 (w84.alloc (.cells #[.int .i64 0, .int .i64 0, .slice none 0 0] 28)) := (Below.refl _ _).alloc (Nat.le_refl _) _
            have hze := hbe.size
            replace HLX := Lib.hid (HLX.out.below hbe)
            replace HBD := Lib.hid (low_next HBD.out hbe)
            refine hK _ _ ⟨⟨_, HBD.out⟩, rfl⟩ ?_
            clear hK K hbe
            generalize hwz : w84.alloc (.cells #[.int .i64 0, .int .i64 0, .slice none 0 0] 28) = wzh at *
            clear hwz
            have hzz0 := HZ.out.z0
            have hzz1 := HZ.out.z1
            have hzz2 := HZ.out.z2
            have hzf0 := HZ.out.f 0
            have hzf1 := HZ.out.f 1
            have hzf2 := HZ.out.f 2
            have HFIN : Hid (Below w81.heap.size w81 (((wzh.setCell ⟨w84.heap.size, 0, none⟩ (.int .i64 sw)).setCell ⟨w84.heap.size, 1, none⟩ (.int .i64 vw)).setCell ⟨w84.heap.size, 2, none⟩ (.slice am (flen kw) cm)) ∧ Tb w84.heap.size sw vw am cm kw (((wzh.setCell ⟨w84.heap.size, 0, none⟩ (.int .i64 sw)).setCell ⟨w84.heap.size, 1, none⟩ (.int .i64 vw)).setCell ⟨w84.heap.size, 2, none⟩ (.slice am (flen kw) cm))) := zb_fin HZ.out HBD.out hbz HLX.out hze (.inr (Nat.le_refl _))
            refine anyT_one (i := 9) (by kernel_rfl) rfl (fun K hK => ?_)
            go_simp
            refine hK _ _ ⟨⟨_, HFIN.out.1⟩, rfl⟩ ?_
            clear hK K hzz0 hzz1 hzz2 hzf0 hzf1 hzf2
            refine anyT_one (i := 10) (by kernel_rfl) rfl (fun K hK => ?_)
            go_simp
            refine hK _ _ ⟨⟨_, HFIN.out.1⟩, rfl⟩ ?_
            clear hK K
            refine anyT_done (by kernel_rfl) ?_
            have HBE := Lib.hid HFIN.out.1
            have HTB := Lib.hid HFIN.out.2
            clear HFIN HZ HLX HBD
            generalize (((wzh.setCell ⟨w84.heap.size, 0, none⟩ (.int .i64 sw)).setCell ⟨w84.heap.size, 1, none⟩ (.int .i64 vw)).setCell ⟨w84.heap.size, 2, none⟩ (.slice am (flen kw) cm)) = weh at *
            have Hlow' : Hid (Below w.heap.size w weh) := low_next Hlow.out HBE.out
            have Hq' : Hid (Tq (w.heap.size + 1) w.heap.size s v a c k weh) := Hq.out.next HBE.out
            have HS' : Hid (Rw (w.heap.size + 1) bs A weh) := HS.out.next HBE.out
            have Hw' : Hid (Tq wew.heap.size bbw sw vw aw cw kw weh) := Hw.out.next HBE.out
            have Hh' : Hid (Yh (w70.heap.size + 1) w71.heap.size w71.heap.size sw vw ag cg kw 1 weh) := Hh.out.next HBE.out
            clear Hlow Hq HS Hw Hh
            have Hlow := Hlow'
            clear Hlow'
            have Hq := Hq'
            clear Hq'
            have HS := HS'
            clear HS'
            have Hw := Hw'
            clear Hw'
            have Hh := Hh'
            clear Hh'
            have hbzlh : w84.heap.size < weh.heap.size := World.block_lt_of_cell? _ _ HTB.out.c0
            obtain ⟨bbh, hbb⟩ : ∃ b, b = w84.heap.size := ⟨_, rfl⟩
            rw [← hbb] at HTB hbzlh ⊢
            have Hm : Hid (Tq weh.heap.size bbh sw vw am cm kw weh) := ⟨HTB.out.c0, HTB.out.c1, HTB.out.c2, hbzlh, HTB.out.sl, Nat.le_refl _⟩
            clear HBE HTB hbb hbzlh hbz
            have qm0 := Hm.out.c0
            have qm1 := Hm.out.c1
            have qm2 := Hm.out.c2
            have qw0 := Hw.out.c0
            have qw1 := Hw.out.c1
            have qw2 := Hw.out.c2
            go_wp2_with fail
            with_reducible refine (eqTerm_any (k := kw) Hm.out.top Hw.out.top (by omega)).mono ?_
            rintro e w85 ⟨rfl, hb⟩
            clear qm0 qm1 qm2 qw0 qw1 qw2
            have Hlow' : Hid (Below w.heap.size w w85) := low_next Hlow.out hb
            have Hq' : Hid (Tq (w.heap.size + 1) w.heap.size s v a c k w85) := Hq.out.next hb
            have HS' : Hid (Rw (w.heap.size + 1) bs A w85) := HS.out.next hb
            have Hw' : Hid (Tq wew.heap.size bbw sw vw aw cw kw w85) := Hw.out.next hb
            have Hh' : Hid (Yh (w70.heap.size + 1) w71.heap.size w71.heap.size sw vw ag cg kw 1 w85) := Hh.out.next hb
            have Hm' : Hid (Tq weh.heap.size bbh sw vw am cm kw w85) := Hm.out.next hb
            clear Hlow Hq HS Hw Hh Hm
            have Hlow := Hlow'
            clear Hlow'
            have Hq := Hq'
            clear Hq'
            have HS := HS'
            clear HS'
            have Hw := Hw'
            clear Hw'
            have Hh := Hh'
            clear Hh'
            have Hm := Hm'
            clear Hm'
            clear hb
            have qh0 := Hh.out.c0
            have qh1 := Hh.out.c1
            have qh2 := Hh.out.c2
            go_wp2_with fail
            with_reducible refine (heldTerm_any sw vw ag cg kw (w70.heap.size + 1) w71.heap.size 1 _ Hh.out.hd (by omega) (by omega) (by omega) (by have := Hh.out.hb; have := Hh.out.lt; omega)).mono ?_
            rintro e w86 ⟨rfl, hb⟩
            clear qh0 qh1 qh2
            have Hlow' : Hid (Below w.heap.size w w86) := low_next Hlow.out hb
            have Hq' : Hid (Tq (w.heap.size + 1) w.heap.size s v a c k w86) := Hq.out.next hb
            have HS' : Hid (Rw (w.heap.size + 1) bs A w86) := HS.out.next hb
            have Hw' : Hid (Tq wew.heap.size bbw sw vw aw cw kw w86) := Hw.out.next hb
            have Hh' : Hid (Yh (w70.heap.size + 1) w71.heap.size w71.heap.size sw vw ag cg kw 1 w86) := Hh.out.next hb
            have Hm' : Hid (Tq weh.heap.size bbh sw vw am cm kw w86) := Hm.out.next hb
            clear Hlow Hq HS Hw Hh Hm
            have Hlow := Hlow'
            clear Hlow'
            have Hq := Hq'
            clear Hq'
            have HS := HS'
            clear HS'
            have Hw := Hw'
            clear Hw'
            have Hh := Hh'
            clear Hh'
            have Hm := Hm'
            clear Hm'
            clear hb
            go_wp2_with fail
            go_ret
            exact ⟨rfl, Hlow.out⟩
          · go_simp
            have HZ := Lib.hid (zb_new w83)
            have hbz : w81.heap.size ≤ w83.heap.size := HBD.out.size
            have hbe : Below w83.heap.size w83 (w83.alloc (.cells #[.int .i64 0, .int .i64 0, .slice none 0 0] 28)) := (Below.refl _ _).alloc (Nat.le_refl _) _
            replace HT6 := Lib.hid ((HT6.out.below hbe).mono (Nat.le_refl _) (hbe).size)
            replace HR5 := Lib.hid ((HR5.out.below hbe).mono (Nat.le_refl _) (hbe).size)
            replace HBD := Lib.hid (low_next HBD.out hbe)
            refine hK _ _ ⟨⟨_, HBD.out⟩, rfl⟩ ?_
            clear hK K hbe
            generalize hwz : w83.alloc (.cells #[.int .i64 0, .int .i64 0, .slice none 0 0] 28) = wzh at *
            clear hwz
            refine anyT_one (i := 4) (by kernel_rfl) rfl (fun K hK => ?_)
            go_simp
            with_reducible refine (iSubstDo_any bs A5h C5h s v a6h c6h k _ HR5.out (by omega) HT6.out).mono ?_
            rintro e w87 ⟨am, cm, sm, vm, km, tm, hdm, rfl, hb, hlx⟩
            rw [HDw.out] at hdm
            simp only [Prod.mk.injEq] at hdm
            obtain ⟨rfl, rfl, rfl, rfl⟩ := hdm
            have hzl := HZ.out.lt
            have hhi := hb.size
            replace HT6 := Lib.hid ((HT6.out.below hb).mono (Nat.le_refl _) (hb).size)
            replace HR5 := Lib.hid ((HR5.out.below hb).mono (Nat.le_refl _) (hb).size)
            replace HZ := Lib.hid (HZ.out.low hb)
            have HLX := Lib.hid hlx
            clear hlx HR5 HT6
            replace HBD := Lib.hid (low_next HBD.out hb)
            refine hK _ _ ⟨⟨_, HBD.out⟩, rfl⟩ ?_
            clear hK K hb
            refine anyT_look (i := 5) rfl (by kernel_rfl) ⟨⟨_, HBD.out⟩, rfl⟩ (fun K hK => ?_)
            go_simp
            refine hK _ ?_
            clear hK K
            refine anyT_look (i := 6) rfl (by kernel_rfl) ⟨⟨_, HBD.out⟩, rfl⟩ (fun K hK => ?_)
            go_simp
            refine hK _ ?_
            clear hK K
            refine anyT_look (i := 7) rfl (by kernel_rfl) ⟨⟨_, HBD.out⟩, rfl⟩ (fun K hK => ?_)
            go_simp
            refine hK _ ?_
            clear hK K
            have hzz0 := HZ.out.z0
            have hzz1 := HZ.out.z1
            have hzz2 := HZ.out.z2
            have hzf0 := HZ.out.f 0
            have hzf1 := HZ.out.f 1
            have hzf2 := HZ.out.f 2
            have HFIN : Hid (Below w81.heap.size w81 (((w87.setCell ⟨w83.heap.size, 0, none⟩ (.int .i64 sw)).setCell ⟨w83.heap.size, 1, none⟩ (.int .i64 vw)).setCell ⟨w83.heap.size, 2, none⟩ (.slice am (flen kw) cm)) ∧ Tb w83.heap.size sw vw am cm kw (((w87.setCell ⟨w83.heap.size, 0, none⟩ (.int .i64 sw)).setCell ⟨w83.heap.size, 1, none⟩ (.int .i64 vw)).setCell ⟨w83.heap.size, 2, none⟩ (.slice am (flen kw) cm))) := zb_fin HZ.out HBD.out hbz HLX.out (Nat.le_refl _) (.inl hzl)
            refine anyT_one (i := 9) (by kernel_rfl) rfl (fun K hK => ?_)
            go_simp
            refine hK _ _ ⟨⟨_, HFIN.out.1⟩, rfl⟩ ?_
            clear hK K hzz0 hzz1 hzz2 hzf0 hzf1 hzf2
            refine anyT_one (i := 10) (by kernel_rfl) rfl (fun K hK => ?_)
            go_simp
            refine hK _ _ ⟨⟨_, HFIN.out.1⟩, rfl⟩ ?_
            clear hK K
            refine anyT_done (by kernel_rfl) ?_
            have HBE := Lib.hid HFIN.out.1
            have HTB := Lib.hid HFIN.out.2
            clear HFIN HZ HLX HBD
            generalize (((w87.setCell ⟨w83.heap.size, 0, none⟩ (.int .i64 sw)).setCell ⟨w83.heap.size, 1, none⟩ (.int .i64 vw)).setCell ⟨w83.heap.size, 2, none⟩ (.slice am (flen kw) cm)) = weh at *
            have Hlow' : Hid (Below w.heap.size w weh) := low_next Hlow.out HBE.out
            have Hq' : Hid (Tq (w.heap.size + 1) w.heap.size s v a c k weh) := Hq.out.next HBE.out
            have HS' : Hid (Rw (w.heap.size + 1) bs A weh) := HS.out.next HBE.out
            have Hw' : Hid (Tq wew.heap.size bbw sw vw aw cw kw weh) := Hw.out.next HBE.out
            have Hh' : Hid (Yh (w70.heap.size + 1) w71.heap.size w71.heap.size sw vw ag cg kw 1 weh) := Hh.out.next HBE.out
            clear Hlow Hq HS Hw Hh
            have Hlow := Hlow'
            clear Hlow'
            have Hq := Hq'
            clear Hq'
            have HS := HS'
            clear HS'
            have Hw := Hw'
            clear Hw'
            have Hh := Hh'
            clear Hh'
            have hbzlh : w83.heap.size < weh.heap.size := World.block_lt_of_cell? _ _ HTB.out.c0
            obtain ⟨bbh, hbb⟩ : ∃ b, b = w83.heap.size := ⟨_, rfl⟩
            rw [← hbb] at HTB hbzlh ⊢
            have Hm : Hid (Tq weh.heap.size bbh sw vw am cm kw weh) := ⟨HTB.out.c0, HTB.out.c1, HTB.out.c2, hbzlh, HTB.out.sl, Nat.le_refl _⟩
            clear HBE HTB hbb hbzlh hbz
            have qm0 := Hm.out.c0
            have qm1 := Hm.out.c1
            have qm2 := Hm.out.c2
            have qw0 := Hw.out.c0
            have qw1 := Hw.out.c1
            have qw2 := Hw.out.c2
            go_wp2_with fail
            with_reducible refine (eqTerm_any (k := kw) Hm.out.top Hw.out.top (by omega)).mono ?_
            rintro e w88 ⟨rfl, hb⟩
            clear qm0 qm1 qm2 qw0 qw1 qw2
            have Hlow' : Hid (Below w.heap.size w w88) := low_next Hlow.out hb
            have Hq' : Hid (Tq (w.heap.size + 1) w.heap.size s v a c k w88) := Hq.out.next hb
            have HS' : Hid (Rw (w.heap.size + 1) bs A w88) := HS.out.next hb
            have Hw' : Hid (Tq wew.heap.size bbw sw vw aw cw kw w88) := Hw.out.next hb
            have Hh' : Hid (Yh (w70.heap.size + 1) w71.heap.size w71.heap.size sw vw ag cg kw 1 w88) := Hh.out.next hb
            have Hm' : Hid (Tq weh.heap.size bbh sw vw am cm kw w88) := Hm.out.next hb
            clear Hlow Hq HS Hw Hh Hm
            have Hlow := Hlow'
            clear Hlow'
            have Hq := Hq'
            clear Hq'
            have HS := HS'
            clear HS'
            have Hw := Hw'
            clear Hw'
            have Hh := Hh'
            clear Hh'
            have Hm := Hm'
            clear Hm'
            clear hb
            have qh0 := Hh.out.c0
            have qh1 := Hh.out.c1
            have qh2 := Hh.out.c2
            go_wp2_with fail
            with_reducible refine (heldTerm_any sw vw ag cg kw (w70.heap.size + 1) w71.heap.size 1 _ Hh.out.hd (by omega) (by omega) (by omega) (by have := Hh.out.hb; have := Hh.out.lt; omega)).mono ?_
            rintro e w89 ⟨rfl, hb⟩
            clear qh0 qh1 qh2
            have Hlow' : Hid (Below w.heap.size w w89) := low_next Hlow.out hb
            have Hq' : Hid (Tq (w.heap.size + 1) w.heap.size s v a c k w89) := Hq.out.next hb
            have HS' : Hid (Rw (w.heap.size + 1) bs A w89) := HS.out.next hb
            have Hw' : Hid (Tq wew.heap.size bbw sw vw aw cw kw w89) := Hw.out.next hb
            have Hh' : Hid (Yh (w70.heap.size + 1) w71.heap.size w71.heap.size sw vw ag cg kw 1 w89) := Hh.out.next hb
            have Hm' : Hid (Tq weh.heap.size bbh sw vw am cm kw w89) := Hm.out.next hb
            clear Hlow Hq HS Hw Hh Hm
            have Hlow := Hlow'
            clear Hlow'
            have Hq := Hq'
            clear Hq'
            have HS := HS'
            clear HS'
            have Hw := Hw'
            clear Hw'
            have Hh := Hh'
            clear Hh'
            have Hm := Hm'
            clear Hm'
            clear hb
            go_wp2_with fail
            go_ret
            exact ⟨rfl, Hlow.out⟩
        · go_simp
          have HZ := Lib.hid (zb_new w82)
          have hbz : w81.heap.size ≤ w82.heap.size := HBD.out.size
          have hbe : Below w82.heap.size w82 (w82.alloc (.cells #[.int .i64 0, .int .i64 0, .slice none 0 0] 28)) := (Below.refl _ _).alloc (Nat.le_refl _) _
          replace HR5 := Lib.hid ((HR5.out.below hbe).mono (Nat.le_refl _) (hbe).size)
          replace HBD := Lib.hid (low_next HBD.out hbe)
          refine hK _ _ ⟨⟨_, HBD.out⟩, rfl⟩ ?_
          clear hK K hbe
          generalize hwz : w82.alloc (.cells #[.int .i64 0, .int .i64 0, .slice none 0 0] 28) = wzh at *
          clear hwz
          refine anyT_one (i := 3) (by kernel_rfl) rfl (fun K hK => ?_)
          go_simp
          with_reducible refine (toTerm_any (Hq.out.next HBD.out).top hN).mono ?_
          rintro e w90 ⟨a6h, c6h, rfl, hb, hl6⟩
          replace HR5 := Lib.hid ((HR5.out.below hb).mono (Nat.le_refl _) (hb).size)
          replace HZ := Lib.hid (HZ.out.low hb)
          have HT6 := Lib.hid (hl6.mono (lo' := 0) (Nat.zero_le _) (Nat.le_refl _))
          clear hl6
          replace HBD := Lib.hid (low_next HBD.out hb)
          refine hK _ _ ⟨⟨_, HBD.out⟩, rfl⟩ ?_
          clear hK K hb
          refine anyT_one (i := 4) (by kernel_rfl) rfl (fun K hK => ?_)
          go_simp
          with_reducible refine (iSubstDo_any bs A5h C5h s v a6h c6h k _ HR5.out (by omega) HT6.out).mono ?_
          rintro e w91 ⟨am, cm, sm, vm, km, tm, hdm, rfl, hb, hlx⟩
          rw [HDw.out] at hdm
          simp only [Prod.mk.injEq] at hdm
          obtain ⟨rfl, rfl, rfl, rfl⟩ := hdm
          have hzl := HZ.out.lt
          have hhi := hb.size
          replace HT6 := Lib.hid ((HT6.out.below hb).mono (Nat.le_refl _) (hb).size)
          replace HR5 := Lib.hid ((HR5.out.below hb).mono (Nat.le_refl _) (hb).size)
          replace HZ := Lib.hid (HZ.out.low hb)
          have HLX := Lib.hid hlx
          clear hlx HR5 HT6
          replace HBD := Lib.hid (low_next HBD.out hb)
          refine hK _ _ ⟨⟨_, HBD.out⟩, rfl⟩ ?_
          clear hK K hb
          refine anyT_look (i := 5) rfl (by kernel_rfl) ⟨⟨_, HBD.out⟩, rfl⟩ (fun K hK => ?_)
          go_simp
          refine hK _ ?_
          clear hK K
          refine anyT_look (i := 6) rfl (by kernel_rfl) ⟨⟨_, HBD.out⟩, rfl⟩ (fun K hK => ?_)
          go_simp
          refine hK _ ?_
          clear hK K
          refine anyT_look (i := 7) rfl (by kernel_rfl) ⟨⟨_, HBD.out⟩, rfl⟩ (fun K hK => ?_)
          go_simp
          refine hK _ ?_
          clear hK K
          have hzz0 := HZ.out.z0
          have hzz1 := HZ.out.z1
          have hzz2 := HZ.out.z2
          have hzf0 := HZ.out.f 0
          have hzf1 := HZ.out.f 1
          have hzf2 := HZ.out.f 2
          have HFIN : Hid (Below w81.heap.size w81 (((w91.setCell ⟨w82.heap.size, 0, none⟩ (.int .i64 sw)).setCell ⟨w82.heap.size, 1, none⟩ (.int .i64 vw)).setCell ⟨w82.heap.size, 2, none⟩ (.slice am (flen kw) cm)) ∧ Tb w82.heap.size sw vw am cm kw (((w91.setCell ⟨w82.heap.size, 0, none⟩ (.int .i64 sw)).setCell ⟨w82.heap.size, 1, none⟩ (.int .i64 vw)).setCell ⟨w82.heap.size, 2, none⟩ (.slice am (flen kw) cm))) := zb_fin HZ.out HBD.out hbz HLX.out (Nat.le_refl _) (.inl hzl)
          refine anyT_one (i := 9) (by kernel_rfl) rfl (fun K hK => ?_)
          go_simp
          refine hK _ _ ⟨⟨_, HFIN.out.1⟩, rfl⟩ ?_
          clear hK K hzz0 hzz1 hzz2 hzf0 hzf1 hzf2
          refine anyT_one (i := 10) (by kernel_rfl) rfl (fun K hK => ?_)
          go_simp
          refine hK _ _ ⟨⟨_, HFIN.out.1⟩, rfl⟩ ?_
          clear hK K
          refine anyT_done (by kernel_rfl) ?_
          have HBE := Lib.hid HFIN.out.1
          have HTB := Lib.hid HFIN.out.2
          clear HFIN HZ HLX HBD
          generalize (((w91.setCell ⟨w82.heap.size, 0, none⟩ (.int .i64 sw)).setCell ⟨w82.heap.size, 1, none⟩ (.int .i64 vw)).setCell ⟨w82.heap.size, 2, none⟩ (.slice am (flen kw) cm)) = weh at *
          have Hlow' : Hid (Below w.heap.size w weh) := low_next Hlow.out HBE.out
          have Hq' : Hid (Tq (w.heap.size + 1) w.heap.size s v a c k weh) := Hq.out.next HBE.out
          have HS' : Hid (Rw (w.heap.size + 1) bs A weh) := HS.out.next HBE.out
          have Hw' : Hid (Tq wew.heap.size bbw sw vw aw cw kw weh) := Hw.out.next HBE.out
          have Hh' : Hid (Yh (w70.heap.size + 1) w71.heap.size w71.heap.size sw vw ag cg kw 1 weh) := Hh.out.next HBE.out
          clear Hlow Hq HS Hw Hh
          have Hlow := Hlow'
          clear Hlow'
          have Hq := Hq'
          clear Hq'
          have HS := HS'
          clear HS'
          have Hw := Hw'
          clear Hw'
          have Hh := Hh'
          clear Hh'
          have hbzlh : w82.heap.size < weh.heap.size := World.block_lt_of_cell? _ _ HTB.out.c0
          obtain ⟨bbh, hbb⟩ : ∃ b, b = w82.heap.size := ⟨_, rfl⟩
          rw [← hbb] at HTB hbzlh ⊢
          have Hm : Hid (Tq weh.heap.size bbh sw vw am cm kw weh) := ⟨HTB.out.c0, HTB.out.c1, HTB.out.c2, hbzlh, HTB.out.sl, Nat.le_refl _⟩
          clear HBE HTB hbb hbzlh hbz
          have qm0 := Hm.out.c0
          have qm1 := Hm.out.c1
          have qm2 := Hm.out.c2
          have qw0 := Hw.out.c0
          have qw1 := Hw.out.c1
          have qw2 := Hw.out.c2
          go_wp2_with fail
          with_reducible refine (eqTerm_any (k := kw) Hm.out.top Hw.out.top (by omega)).mono ?_
          rintro e w92 ⟨rfl, hb⟩
          clear qm0 qm1 qm2 qw0 qw1 qw2
          have Hlow' : Hid (Below w.heap.size w w92) := low_next Hlow.out hb
          have Hq' : Hid (Tq (w.heap.size + 1) w.heap.size s v a c k w92) := Hq.out.next hb
          have HS' : Hid (Rw (w.heap.size + 1) bs A w92) := HS.out.next hb
          have Hw' : Hid (Tq wew.heap.size bbw sw vw aw cw kw w92) := Hw.out.next hb
          have Hh' : Hid (Yh (w70.heap.size + 1) w71.heap.size w71.heap.size sw vw ag cg kw 1 w92) := Hh.out.next hb
          have Hm' : Hid (Tq weh.heap.size bbh sw vw am cm kw w92) := Hm.out.next hb
          clear Hlow Hq HS Hw Hh Hm
          have Hlow := Hlow'
          clear Hlow'
          have Hq := Hq'
          clear Hq'
          have HS := HS'
          clear HS'
          have Hw := Hw'
          clear Hw'
          have Hh := Hh'
          clear Hh'
          have Hm := Hm'
          clear Hm'
          clear hb
          have qh0 := Hh.out.c0
          have qh1 := Hh.out.c1
          have qh2 := Hh.out.c2
          go_wp2_with fail
          with_reducible refine (heldTerm_any sw vw ag cg kw (w70.heap.size + 1) w71.heap.size 1 _ Hh.out.hd (by omega) (by omega) (by omega) (by have := Hh.out.hb; have := Hh.out.lt; omega)).mono ?_
          rintro e w93 ⟨rfl, hb⟩
          clear qh0 qh1 qh2
          have Hlow' : Hid (Below w.heap.size w w93) := low_next Hlow.out hb
          have Hq' : Hid (Tq (w.heap.size + 1) w.heap.size s v a c k w93) := Hq.out.next hb
          have HS' : Hid (Rw (w.heap.size + 1) bs A w93) := HS.out.next hb
          have Hw' : Hid (Tq wew.heap.size bbw sw vw aw cw kw w93) := Hw.out.next hb
          have Hh' : Hid (Yh (w70.heap.size + 1) w71.heap.size w71.heap.size sw vw ag cg kw 1 w93) := Hh.out.next hb
          have Hm' : Hid (Tq weh.heap.size bbh sw vw am cm kw w93) := Hm.out.next hb
          clear Hlow Hq HS Hw Hh Hm
          have Hlow := Hlow'
          clear Hlow'
          have Hq := Hq'
          clear Hq'
          have HS := HS'
          clear HS'
          have Hw := Hw'
          clear Hw'
          have Hh := Hh'
          clear Hh'
          have Hm := Hm'
          clear Hm'
          clear hb
          go_wp2_with fail
          go_ret
          exact ⟨rfl, Hlow.out⟩
      · go_simp
        have HZ := Lib.hid (zb_new wdh)
        have hbz : w81.heap.size ≤ wdh.heap.size := HBD.out.size
        have hbe : Below wdh.heap.size wdh (wdh.alloc (.cells #[.int .i64 0, .int .i64 0, .slice none 0 0] 28)) := (Below.refl _ _).alloc (Nat.le_refl _) _
        replace HBD := Lib.hid (low_next HBD.out hbe)
        refine hK _ _ ⟨⟨_, HBD.out⟩, rfl⟩ ?_
        clear hK K hbe
        generalize hwz : wdh.alloc (.cells #[.int .i64 0, .int .i64 0, .slice none 0 0] 28) = wzh at *
        clear hwz
        refine anyT_one (i := 1) (by kernel_rfl) rfl (fun K hK => ?_)
        go_simp
        with_reducible refine (toBindS_any bs A C _ (HS.out.next HBD.out).top (by omega) HZB.out).mono ?_
        rintro e w94 ⟨A5h, C5h, rfl, hb, hs5⟩
        replace HZ := Lib.hid (HZ.out.low hb)
        have HR5 := Lib.hid (hs5.bsl.mono (lo' := 0) (Nat.zero_le _) (Nat.le_refl _))
        clear hs5
        replace HBD := Lib.hid (low_next HBD.out hb)
        refine hK _ _ ⟨⟨_, HBD.out⟩, rfl⟩ ?_
        clear hK K hb
        refine anyT_one (i := 3) (by kernel_rfl) rfl (fun K hK => ?_)
        go_simp
        with_reducible refine (toTerm_any (Hq.out.next HBD.out).top hN).mono ?_
        rintro e w95 ⟨a6h, c6h, rfl, hb, hl6⟩
        replace HZ := Lib.hid (HZ.out.low hb)
        replace HR5 := Lib.hid ((HR5.out.below hb).mono (Nat.le_refl _) (hb).size)
        have HT6 := Lib.hid (hl6.mono (lo' := 0) (Nat.zero_le _) (Nat.le_refl _))
        clear hl6
        replace HBD := Lib.hid (low_next HBD.out hb)
        refine hK _ _ ⟨⟨_, HBD.out⟩, rfl⟩ ?_
        clear hK K hb
        refine anyT_one (i := 4) (by kernel_rfl) rfl (fun K hK => ?_)
        go_simp
        with_reducible refine (iSubstDo_any bs A5h C5h s v a6h c6h k _ HR5.out (by omega) HT6.out).mono ?_
        rintro e w96 ⟨am, cm, sm, vm, km, tm, hdm, rfl, hb, hlx⟩
        rw [HDw.out] at hdm
        simp only [Prod.mk.injEq] at hdm
        obtain ⟨rfl, rfl, rfl, rfl⟩ := hdm
        have hzl := HZ.out.lt
        have hhi := hb.size
        replace HT6 := Lib.hid ((HT6.out.below hb).mono (Nat.le_refl _) (hb).size)
        replace HZ := Lib.hid (HZ.out.low hb)
        replace HR5 := Lib.hid ((HR5.out.below hb).mono (Nat.le_refl _) (hb).size)
        have HLX := Lib.hid hlx
        clear hlx HR5 HT6
        replace HBD := Lib.hid (low_next HBD.out hb)
        refine hK _ _ ⟨⟨_, HBD.out⟩, rfl⟩ ?_
        clear hK K hb
        refine anyT_look (i := 5) rfl (by kernel_rfl) ⟨⟨_, HBD.out⟩, rfl⟩ (fun K hK => ?_)
        go_simp
        refine hK _ ?_
        clear hK K
        refine anyT_look (i := 6) rfl (by kernel_rfl) ⟨⟨_, HBD.out⟩, rfl⟩ (fun K hK => ?_)
        go_simp
        refine hK _ ?_
        clear hK K
        refine anyT_look (i := 7) rfl (by kernel_rfl) ⟨⟨_, HBD.out⟩, rfl⟩ (fun K hK => ?_)
        go_simp
        refine hK _ ?_
        clear hK K
        have hzz0 := HZ.out.z0
        have hzz1 := HZ.out.z1
        have hzz2 := HZ.out.z2
        have hzf0 := HZ.out.f 0
        have hzf1 := HZ.out.f 1
        have hzf2 := HZ.out.f 2
        have HFIN : Hid (Below w81.heap.size w81 (((w96.setCell ⟨wdh.heap.size, 0, none⟩ (.int .i64 sw)).setCell ⟨wdh.heap.size, 1, none⟩ (.int .i64 vw)).setCell ⟨wdh.heap.size, 2, none⟩ (.slice am (flen kw) cm)) ∧ Tb wdh.heap.size sw vw am cm kw (((w96.setCell ⟨wdh.heap.size, 0, none⟩ (.int .i64 sw)).setCell ⟨wdh.heap.size, 1, none⟩ (.int .i64 vw)).setCell ⟨wdh.heap.size, 2, none⟩ (.slice am (flen kw) cm))) := zb_fin HZ.out HBD.out hbz HLX.out (Nat.le_refl _) (.inl hzl)
        refine anyT_one (i := 9) (by kernel_rfl) rfl (fun K hK => ?_)
        go_simp
        refine hK _ _ ⟨⟨_, HFIN.out.1⟩, rfl⟩ ?_
        clear hK K hzz0 hzz1 hzz2 hzf0 hzf1 hzf2
        refine anyT_one (i := 10) (by kernel_rfl) rfl (fun K hK => ?_)
        go_simp
        refine hK _ _ ⟨⟨_, HFIN.out.1⟩, rfl⟩ ?_
        clear hK K
        refine anyT_done (by kernel_rfl) ?_
        have HBE := Lib.hid HFIN.out.1
        have HTB := Lib.hid HFIN.out.2
        clear HFIN HZ HLX HBD
        generalize (((w96.setCell ⟨wdh.heap.size, 0, none⟩ (.int .i64 sw)).setCell ⟨wdh.heap.size, 1, none⟩ (.int .i64 vw)).setCell ⟨wdh.heap.size, 2, none⟩ (.slice am (flen kw) cm)) = weh at *
        have Hlow' : Hid (Below w.heap.size w weh) := low_next Hlow.out HBE.out
        have Hq' : Hid (Tq (w.heap.size + 1) w.heap.size s v a c k weh) := Hq.out.next HBE.out
        have HS' : Hid (Rw (w.heap.size + 1) bs A weh) := HS.out.next HBE.out
        have Hw' : Hid (Tq wew.heap.size bbw sw vw aw cw kw weh) := Hw.out.next HBE.out
        have Hh' : Hid (Yh (w70.heap.size + 1) w71.heap.size w71.heap.size sw vw ag cg kw 1 weh) := Hh.out.next HBE.out
        clear Hlow Hq HS Hw Hh
        have Hlow := Hlow'
        clear Hlow'
        have Hq := Hq'
        clear Hq'
        have HS := HS'
        clear HS'
        have Hw := Hw'
        clear Hw'
        have Hh := Hh'
        clear Hh'
        have hbzlh : wdh.heap.size < weh.heap.size := World.block_lt_of_cell? _ _ HTB.out.c0
        obtain ⟨bbh, hbb⟩ : ∃ b, b = wdh.heap.size := ⟨_, rfl⟩
        rw [← hbb] at HTB hbzlh ⊢
        have Hm : Hid (Tq weh.heap.size bbh sw vw am cm kw weh) := ⟨HTB.out.c0, HTB.out.c1, HTB.out.c2, hbzlh, HTB.out.sl, Nat.le_refl _⟩
        clear HBE HTB hbb hbzlh hbz
        have qm0 := Hm.out.c0
        have qm1 := Hm.out.c1
        have qm2 := Hm.out.c2
        have qw0 := Hw.out.c0
        have qw1 := Hw.out.c1
        have qw2 := Hw.out.c2
        go_wp2_with fail
        with_reducible refine (eqTerm_any (k := kw) Hm.out.top Hw.out.top (by omega)).mono ?_
        rintro e w97 ⟨rfl, hb⟩
        clear qm0 qm1 qm2 qw0 qw1 qw2
        have Hlow' : Hid (Below w.heap.size w w97) := low_next Hlow.out hb
        have Hq' : Hid (Tq (w.heap.size + 1) w.heap.size s v a c k w97) := Hq.out.next hb
        have HS' : Hid (Rw (w.heap.size + 1) bs A w97) := HS.out.next hb
        have Hw' : Hid (Tq wew.heap.size bbw sw vw aw cw kw w97) := Hw.out.next hb
        have Hh' : Hid (Yh (w70.heap.size + 1) w71.heap.size w71.heap.size sw vw ag cg kw 1 w97) := Hh.out.next hb
        have Hm' : Hid (Tq weh.heap.size bbh sw vw am cm kw w97) := Hm.out.next hb
        clear Hlow Hq HS Hw Hh Hm
        have Hlow := Hlow'
        clear Hlow'
        have Hq := Hq'
        clear Hq'
        have HS := HS'
        clear HS'
        have Hw := Hw'
        clear Hw'
        have Hh := Hh'
        clear Hh'
        have Hm := Hm'
        clear Hm'
        clear hb
        have qh0 := Hh.out.c0
        have qh1 := Hh.out.c1
        have qh2 := Hh.out.c2
        go_wp2_with fail
        with_reducible refine (heldTerm_any sw vw ag cg kw (w70.heap.size + 1) w71.heap.size 1 _ Hh.out.hd (by omega) (by omega) (by omega) (by have := Hh.out.hb; have := Hh.out.lt; omega)).mono ?_
        rintro e w98 ⟨rfl, hb⟩
        clear qh0 qh1 qh2
        have Hlow' : Hid (Below w.heap.size w w98) := low_next Hlow.out hb
        have Hq' : Hid (Tq (w.heap.size + 1) w.heap.size s v a c k w98) := Hq.out.next hb
        have HS' : Hid (Rw (w.heap.size + 1) bs A w98) := HS.out.next hb
        have Hw' : Hid (Tq wew.heap.size bbw sw vw aw cw kw w98) := Hw.out.next hb
        have Hh' : Hid (Yh (w70.heap.size + 1) w71.heap.size w71.heap.size sw vw ag cg kw 1 w98) := Hh.out.next hb
        have Hm' : Hid (Tq weh.heap.size bbh sw vw am cm kw w98) := Hm.out.next hb
        clear Hlow Hq HS Hw Hh Hm
        have Hlow := Hlow'
        clear Hlow'
        have Hq := Hq'
        clear Hq'
        have HS := HS'
        clear HS'
        have Hw := Hw'
        clear Hw'
        have Hh := Hh'
        clear Hh'
        have Hm := Hm'
        clear Hm'
        clear hb
        go_wp2_with fail
        go_ret
        exact ⟨rfl, Hlow.out⟩
  · go_simp
    have HZ := Lib.hid (zb_new wdw)
    have hbz : w2.heap.size ≤ wdw.heap.size := HBD.out.size
    have hbe : Below wdw.heap.size wdw (wdw.alloc (.cells #[.int .i64 0, .int .i64 0, .slice none 0 0] 28)) := (Below.refl _ _).alloc (Nat.le_refl _) _
    replace HBD := Lib.hid (low_next HBD.out hbe)
    refine hK _ _ ⟨⟨_, HBD.out⟩, rfl⟩ ?_
    clear hK K hbe
    generalize hwz : wdw.alloc (.cells #[.int .i64 0, .int .i64 0, .slice none 0 0] 28) = wzw at *
    clear hwz
    refine anyT_one (i := 1) (by kernel_rfl) rfl (fun K hK => ?_)
    go_simp
    with_reducible refine (toBindS_any bs A C _ (HS.out.next HBD.out).top (by omega) HZB.out).mono ?_
    rintro e w99 ⟨A5w, C5w, rfl, hb, hs5⟩
    replace HZ := Lib.hid (HZ.out.low hb)
    have HR5 := Lib.hid (hs5.bsl.mono (lo' := 0) (Nat.zero_le _) (Nat.le_refl _))
    clear hs5
    replace HBD := Lib.hid (low_next HBD.out hb)
    refine hK _ _ ⟨⟨_, HBD.out⟩, rfl⟩ ?_
    clear hK K hb
    refine anyT_one (i := 3) (by kernel_rfl) rfl (fun K hK => ?_)
    go_simp
    with_reducible refine (toTerm_any (Hq.out.next HBD.out).top hN).mono ?_
    rintro e w100 ⟨a6w, c6w, rfl, hb, hl6⟩
    replace HZ := Lib.hid (HZ.out.low hb)
    replace HR5 := Lib.hid ((HR5.out.below hb).mono (Nat.le_refl _) (hb).size)
    have HT6 := Lib.hid (hl6.mono (lo' := 0) (Nat.zero_le _) (Nat.le_refl _))
    clear hl6
    replace HBD := Lib.hid (low_next HBD.out hb)
    refine hK _ _ ⟨⟨_, HBD.out⟩, rfl⟩ ?_
    clear hK K hb
    refine anyT_one (i := 4) (by kernel_rfl) rfl (fun K hK => ?_)
    go_simp
    with_reducible refine (sSubstDo_any bs A5w C5w s v a6w c6w k _ HR5.out (by omega) HT6.out).mono ?_
    rintro e w101 ⟨aw, cw, sw, vw, kw, tw, hdw, rfl, hb, hlx⟩
    have HDw := Lib.hid hdw
    clear hdw
    have hzl := HZ.out.lt
    have hhi := hb.size
    replace HT6 := Lib.hid ((HT6.out.below hb).mono (Nat.le_refl _) (hb).size)
    replace HZ := Lib.hid (HZ.out.low hb)
    replace HR5 := Lib.hid ((HR5.out.below hb).mono (Nat.le_refl _) (hb).size)
    have HLX := Lib.hid hlx
    clear hlx HR5 HT6
    replace HBD := Lib.hid (low_next HBD.out hb)
    refine hK _ _ ⟨⟨_, HBD.out⟩, rfl⟩ ?_
    clear hK K hb
    refine anyT_look (i := 5) rfl (by kernel_rfl) ⟨⟨_, HBD.out⟩, rfl⟩ (fun K hK => ?_)
    go_simp
    refine hK _ ?_
    clear hK K
    refine anyT_look (i := 6) rfl (by kernel_rfl) ⟨⟨_, HBD.out⟩, rfl⟩ (fun K hK => ?_)
    go_simp
    refine hK _ ?_
    clear hK K
    refine anyT_look (i := 7) rfl (by kernel_rfl) ⟨⟨_, HBD.out⟩, rfl⟩ (fun K hK => ?_)
    go_simp
    refine hK _ ?_
    clear hK K
    have hzz0 := HZ.out.z0
    have hzz1 := HZ.out.z1
    have hzz2 := HZ.out.z2
    have hzf0 := HZ.out.f 0
    have hzf1 := HZ.out.f 1
    have hzf2 := HZ.out.f 2
    have HFIN : Hid (Below w2.heap.size w2 (((w101.setCell ⟨wdw.heap.size, 0, none⟩ (.int .i64 sw)).setCell ⟨wdw.heap.size, 1, none⟩ (.int .i64 vw)).setCell ⟨wdw.heap.size, 2, none⟩ (.slice aw (flen kw) cw)) ∧ Tb wdw.heap.size sw vw aw cw kw (((w101.setCell ⟨wdw.heap.size, 0, none⟩ (.int .i64 sw)).setCell ⟨wdw.heap.size, 1, none⟩ (.int .i64 vw)).setCell ⟨wdw.heap.size, 2, none⟩ (.slice aw (flen kw) cw))) := zb_fin HZ.out HBD.out hbz HLX.out (Nat.le_refl _) (.inl hzl)
    refine anyT_one (i := 9) (by kernel_rfl) rfl (fun K hK => ?_)
    go_simp
    refine hK _ _ ⟨⟨_, HFIN.out.1⟩, rfl⟩ ?_
    clear hK K hzz0 hzz1 hzz2 hzf0 hzf1 hzf2
    refine anyT_one (i := 10) (by kernel_rfl) rfl (fun K hK => ?_)
    go_simp
    refine hK _ _ ⟨⟨_, HFIN.out.1⟩, rfl⟩ ?_
    clear hK K
    refine anyT_done (by kernel_rfl) ?_
    have HBE := Lib.hid HFIN.out.1
    have HTB := Lib.hid HFIN.out.2
    clear HFIN HZ HLX HBD
    generalize (((w101.setCell ⟨wdw.heap.size, 0, none⟩ (.int .i64 sw)).setCell ⟨wdw.heap.size, 1, none⟩ (.int .i64 vw)).setCell ⟨wdw.heap.size, 2, none⟩ (.slice aw (flen kw) cw)) = wew at *
    have Hlow' : Hid (Below w.heap.size w wew) := low_next Hlow.out HBE.out
    have Hq' : Hid (Tq (w.heap.size + 1) w.heap.size s v a c k wew) := Hq.out.next HBE.out
    have HS' : Hid (Rw (w.heap.size + 1) bs A wew) := HS.out.next HBE.out
    clear Hlow Hq HS
    have Hlow := Hlow'
    clear Hlow'
    have Hq := Hq'
    clear Hq'
    have HS := HS'
    clear HS'
    have hbzlw : wdw.heap.size < wew.heap.size := World.block_lt_of_cell? _ _ HTB.out.c0
    obtain ⟨bbw, hbb⟩ : ∃ b, b = wdw.heap.size := ⟨_, rfl⟩
    rw [← hbb] at HTB hbzlw ⊢
    have Hw : Hid (Tq wew.heap.size bbw sw vw aw cw kw wew) := ⟨HTB.out.c0, HTB.out.c1, HTB.out.c2, hbzlw, HTB.out.sl, Nat.le_refl _⟩
    clear HBE HTB hbb hbzlw hbz
    clear hz hz2
    have hkw := sdR_sz HDw.out
    have hnw := Hw.out.le
    have hqn := Hq.out.le
    go_wp2_with fail
    with_reducible refine (toBindS_any bs A C _ HS.out.top (by omega) HZB.out).mono ?_
    rintro e w102 ⟨Ax, Cx, rfl, hb, hsx⟩
    have hsz1 := hb.size
    have Hlow' : Hid (Below w.heap.size w w102) := low_next Hlow.out hb
    have Hq' : Hid (Tq (w.heap.size + 1) w.heap.size s v a c k w102) := Hq.out.next hb
    have HS' : Hid (Rw (w.heap.size + 1) bs A w102) := HS.out.next hb
    have Hw' : Hid (Tq wew.heap.size bbw sw vw aw cw kw w102) := Hw.out.next hb
    clear Hlow Hq HS Hw
    have Hlow := Hlow'
    clear Hlow'
    have Hq := Hq'
    clear Hq'
    have HS := HS'
    clear HS'
    have Hw := Hw'
    clear Hw'
    clear hb
    have Hx : Hid (Gs wew.heap.size w102.heap.size bs Ax w102) := ⟨hsx, Nat.le_refl _⟩
    clear hsx
    have qq0 := Hq.out.c0
    have qq1 := Hq.out.c1
    have qq2 := Hq.out.c2
    go_wp2_with fail
    with_reducible refine (toTermT_anyD Hq.out.top hN).mono ?_
    rintro e w103 ⟨ay, cy, rfl, hb, hly⟩
    clear qq0 qq1 qq2
    have hsz2 := hb.size
    have Hlow' : Hid (Below w.heap.size w w103) := low_next Hlow.out hb
    have Hq' : Hid (Tq (w.heap.size + 1) w.heap.size s v a c k w103) := Hq.out.next hb
    have HS' : Hid (Rw (w.heap.size + 1) bs A w103) := HS.out.next hb
    have Hw' : Hid (Tq wew.heap.size bbw sw vw aw cw kw w103) := Hw.out.next hb
    have Hx' : Hid (Gs wew.heap.size w102.heap.size bs Ax w103) := Hx.out.next hb
    clear Hlow Hq HS Hw Hx
    have Hlow := Hlow'
    clear Hlow'
    have Hq := Hq'
    clear Hq'
    have HS := HS'
    clear HS'
    have Hw := Hw'
    clear Hw'
    have Hx := Hx'
    clear Hx'
    clear hb
    have Hyn : Hid (Xb w102.heap.size w103.heap.size w103.heap.size s v ay cy k (w103.alloc (.cells #[.int .i64 s, .int .i64 v, .slice ay (flen k) cy] 28))) := Xb.new hly hsz2 _
    have hb : Below w103.heap.size w103 (w103.alloc (.cells #[.int .i64 s, .int .i64 v, .slice ay (flen k) cy] 28)) := (Below.refl _ _).alloc (Nat.le_refl _) _
    clear hly
    have Hlow' : Hid (Below w.heap.size w (w103.alloc (.cells #[.int .i64 s, .int .i64 v, .slice ay (flen k) cy] 28))) := low_next Hlow.out hb
    have Hq' : Hid (Tq (w.heap.size + 1) w.heap.size s v a c k (w103.alloc (.cells #[.int .i64 s, .int .i64 v, .slice ay (flen k) cy] 28))) := Hq.out.next hb
    have HS' : Hid (Rw (w.heap.size + 1) bs A (w103.alloc (.cells #[.int .i64 s, .int .i64 v, .slice ay (flen k) cy] 28))) := HS.out.next hb
    have Hw' : Hid (Tq wew.heap.size bbw sw vw aw cw kw (w103.alloc (.cells #[.int .i64 s, .int .i64 v, .slice ay (flen k) cy] 28))) := Hw.out.next hb
    have Hx' : Hid (Gs wew.heap.size w102.heap.size bs Ax (w103.alloc (.cells #[.int .i64 s, .int .i64 v, .slice ay (flen k) cy] 28))) := Hx.out.next hb
    clear Hlow Hq HS Hw Hx
    have Hlow := Hlow'
    clear Hlow'
    have Hq := Hq'
    clear Hq'
    have HS := HS'
    clear HS'
    have Hw := Hw'
    clear Hw'
    have Hx := Hx'
    clear Hx'
    have Hy := Hyn
    clear Hyn hb
    have qy0 := Hy.out.c0
    have qy1 := Hy.out.c1
    have qy2 := Hy.out.c2
    go_wp2_with fail
    with_reducible refine (iSubstDoT_any bs Ax Cx s v ay cy k _ Hx.out.top (by omega) Hy.out.top).mono ?_
    rintro e w104 ⟨ag, cg, sg, vg, kg, tg, hdg, rfl, hb, htx⟩
    rw [HDw.out] at hdg
    simp only [Prod.mk.injEq] at hdg
    obtain ⟨rfl, rfl, rfl, rfl⟩ := hdg
    clear qy0 qy1 qy2
    have hsz3 : w103.heap.size + 1 ≤ w104.heap.size := by have h9 := hb.size; simpa using h9
    have Hlow' : Hid (Below w.heap.size w w104) := low_next Hlow.out hb
    have Hq' : Hid (Tq (w.heap.size + 1) w.heap.size s v a c k w104) := Hq.out.next hb
    have HS' : Hid (Rw (w.heap.size + 1) bs A w104) := HS.out.next hb
    have Hw' : Hid (Tq wew.heap.size bbw sw vw aw cw kw w104) := Hw.out.next hb
    have Hx' : Hid (Gs wew.heap.size w102.heap.size bs Ax w104) := Hx.out.next hb
    have Hy' : Hid (Xb w102.heap.size w103.heap.size w103.heap.size s v ay cy k w104) := Hy.out.next hb
    clear Hlow Hq HS Hw Hx Hy
    have Hlow := Hlow'
    clear Hlow'
    have Hq := Hq'
    clear Hq'
    have HS := HS'
    clear HS'
    have Hw := Hw'
    clear Hw'
    have Hx := Hx'
    clear Hx'
    have Hy := Hy'
    clear Hy'
    clear hb
    have hb : Below w104.heap.size w104 (w104.alloc (.cells #[.int .i64 sw, .int .i64 vw, .slice ag (flen kw) cg] 28)) := (Below.refl _ _).alloc (Nat.le_refl _) _
    have Hgn : Hid (Yb (w103.heap.size + 1) w104.heap.size w104.heap.size sw vw ag cg kw (w104.alloc (.cells #[.int .i64 sw, .int .i64 vw, .slice ag (flen kw) cg] 28))) := Yb.new (htx.mono (by simp) (Nat.le_refl _)) hsz3 _
    have Hlow' : Hid (Below w.heap.size w (w104.alloc (.cells #[.int .i64 sw, .int .i64 vw, .slice ag (flen kw) cg] 28))) := low_next Hlow.out hb
    have Hq' : Hid (Tq (w.heap.size + 1) w.heap.size s v a c k (w104.alloc (.cells #[.int .i64 sw, .int .i64 vw, .slice ag (flen kw) cg] 28))) := Hq.out.next hb
    have HS' : Hid (Rw (w.heap.size + 1) bs A (w104.alloc (.cells #[.int .i64 sw, .int .i64 vw, .slice ag (flen kw) cg] 28))) := HS.out.next hb
    have Hw' : Hid (Tq wew.heap.size bbw sw vw aw cw kw (w104.alloc (.cells #[.int .i64 sw, .int .i64 vw, .slice ag (flen kw) cg] 28))) := Hw.out.next hb
    have Hx' : Hid (Gs wew.heap.size w102.heap.size bs Ax (w104.alloc (.cells #[.int .i64 sw, .int .i64 vw, .slice ag (flen kw) cg] 28))) := Hx.out.next hb
    have Hy' : Hid (Xb w102.heap.size w103.heap.size w103.heap.size s v ay cy k (w104.alloc (.cells #[.int .i64 sw, .int .i64 vw, .slice ag (flen kw) cg] 28))) := Hy.out.next hb
    clear Hlow Hq HS Hw Hx Hy
    have Hlow := Hlow'
    clear Hlow'
    have Hq := Hq'
    clear Hq'
    have HS := HS'
    clear HS'
    have Hw := Hw'
    clear Hw'
    have Hx := Hx'
    clear Hx'
    have Hy := Hy'
    clear Hy'
    have Hg := Hgn
    clear Hgn hb htx
    have eb : (tw != tw) = false := by simp
    have qg0 := Hg.out.c0
    have qg1 := Hg.out.c1
    have qg2 := Hg.out.c2
    have qw0 := Hw.out.c0
    have qw1 := Hw.out.c1
    have qw2 := Hw.out.c2
    go_wp2_with fail
    with_reducible refine (eqTerm_any (k := kw) Hg.out.top Hw.out.top (by omega)).mono ?_
    rintro e w105 ⟨rfl, hb⟩
    clear qg0 qg1 qg2 qw0 qw1 qw2
    have Hlow' : Hid (Below w.heap.size w w105) := low_next Hlow.out hb
    have Hq' : Hid (Tq (w.heap.size + 1) w.heap.size s v a c k w105) := Hq.out.next hb
    have HS' : Hid (Rw (w.heap.size + 1) bs A w105) := HS.out.next hb
    have Hw' : Hid (Tq wew.heap.size bbw sw vw aw cw kw w105) := Hw.out.next hb
    have Hx' : Hid (Gs wew.heap.size w102.heap.size bs Ax w105) := Hx.out.next hb
    have Hy' : Hid (Xb w102.heap.size w103.heap.size w103.heap.size s v ay cy k w105) := Hy.out.next hb
    have Hg' : Hid (Yb (w103.heap.size + 1) w104.heap.size w104.heap.size sw vw ag cg kw w105) := Hg.out.next hb
    clear Hlow Hq HS Hw Hx Hy Hg
    have Hlow := Hlow'
    clear Hlow'
    have Hq := Hq'
    clear Hq'
    have HS := HS'
    clear HS'
    have Hw := Hw'
    clear Hw'
    have Hx := Hx'
    clear Hx'
    have Hy := Hy'
    clear Hy'
    have Hg := Hg'
    clear Hg'
    clear hb
    go_wp2_with fail
    with_reducible refine (toBindS_any bs A C _ HS.out.top (by omega) HZB.out).mono ?_
    rintro e w106 ⟨A9, C9, rfl, hb, hs9⟩
    have Hlow' : Hid (Below w.heap.size w w106) := low_next Hlow.out hb
    have Hq' : Hid (Tq (w.heap.size + 1) w.heap.size s v a c k w106) := Hq.out.next hb
    have HS' : Hid (Rw (w.heap.size + 1) bs A w106) := HS.out.next hb
    have Hw' : Hid (Tq wew.heap.size bbw sw vw aw cw kw w106) := Hw.out.next hb
    have Hx' : Hid (Gs wew.heap.size w102.heap.size bs Ax w106) := Hx.out.next hb
    have Hy' : Hid (Xb w102.heap.size w103.heap.size w103.heap.size s v ay cy k w106) := Hy.out.next hb
    have Hg' : Hid (Yb (w103.heap.size + 1) w104.heap.size w104.heap.size sw vw ag cg kw w106) := Hg.out.next hb
    clear Hlow Hq HS Hw Hx Hy Hg
    have Hlow := Hlow'
    clear Hlow'
    have Hq := Hq'
    clear Hq'
    have HS := HS'
    clear HS'
    have Hw := Hw'
    clear Hw'
    have Hx := Hx'
    clear Hx'
    have Hy := Hy'
    clear Hy'
    have Hg := Hg'
    clear Hg'
    clear hb
    have HS9 : Hid (BSl w106 0 w106.heap.size A9 bs) := hs9.bsl.mono (Nat.zero_le _) (Nat.le_refl _)
    clear hs9
    go_wp2_with fail
    with_reducible refine (eqBindS_same bs Ax A9 Cx C9 _ Hx.out.top HS9.out (by omega) HZB.out).mono ?_
    rintro e w107 ⟨rfl, hb⟩
    have Hlow' : Hid (Below w.heap.size w w107) := low_next Hlow.out hb
    have Hq' : Hid (Tq (w.heap.size + 1) w.heap.size s v a c k w107) := Hq.out.next hb
    have HS' : Hid (Rw (w.heap.size + 1) bs A w107) := HS.out.next hb
    have Hw' : Hid (Tq wew.heap.size bbw sw vw aw cw kw w107) := Hw.out.next hb
    have Hx' : Hid (Gs wew.heap.size w102.heap.size bs Ax w107) := Hx.out.next hb
    have Hy' : Hid (Xb w102.heap.size w103.heap.size w103.heap.size s v ay cy k w107) := Hy.out.next hb
    have Hg' : Hid (Yb (w103.heap.size + 1) w104.heap.size w104.heap.size sw vw ag cg kw w107) := Hg.out.next hb
    clear Hlow Hq HS Hw Hx Hy Hg
    have Hlow := Hlow'
    clear Hlow'
    have Hq := Hq'
    clear Hq'
    have HS := HS'
    clear HS'
    have Hw := Hw'
    clear Hw'
    have Hx := Hx'
    clear Hx'
    have Hy := Hy'
    clear Hy'
    have Hg := Hg'
    clear Hg'
    clear hb
    clear HS9
    have hu0 : ∀ u : After w107.heap.size w107, u.world.cell? ⟨w103.heap.size, 0, none⟩ = some (.int .i64 s) := fun u => cell_low u.below Hy.out.c0
    have hu1 : ∀ u : After w107.heap.size w107, u.world.cell? ⟨w103.heap.size, 1, none⟩ = some (.int .i64 v) := fun u => cell_low u.below Hy.out.c1
    have hu2 : ∀ u : After w107.heap.size w107, u.world.cell? ⟨w103.heap.size, 2, none⟩ = some (.slice ay (flen k) cy) := fun u => cell_low u.below Hy.out.c2
    have hu3 : ∀ u : After w107.heap.size w107, u.world.cell? ⟨w.heap.size, 0, none⟩ = some (.int .i64 s) := fun u => cell_low u.below Hq.out.c0
    have hu4 : ∀ u : After w107.heap.size w107, u.world.cell? ⟨w.heap.size, 1, none⟩ = some (.int .i64 v) := fun u => cell_low u.below Hq.out.c1
    have hu5 : ∀ u : After w107.heap.size w107, u.world.cell? ⟨w.heap.size, 2, none⟩ = some (.slice a (flen k) c) := fun u => cell_low u.below Hq.out.c2
    go_wp2_with fail
    refine wp_region_mix (fun w' => ∃ u : After w107.heap.size w107, w' = u.world) [] [(0, 0), (1, 0), (2, 1), (3, 1), (4, 0)] (by kernel_rfl) (by kernel_rfl) ⟨⟨_, (Below.refl _ _).drew⟩, rfl⟩ ?_
    have HBD : Hid (Below w107.heap.size w107 w107.drew) := (Below.refl _ _).drew
    generalize w107.drew = wd at *
    refine mix_see rfl (fun K hK => ?_)
    go_simp
    refine hK _ ?_
    clear hK K
    refine mix_see rfl (fun K hK => ?_)
    go_simp
    refine hK _ ?_
    clear hK K
    refine mix_hold rfl (fun K hK => ?_)
    go_simp
    with_reducible refine (toTerm_any (Hq.out.next HBD.out).top hN).mono ?_
    rintro e w108 ⟨aq9, cq9, rfl, hb, hl9⟩
    have HT9 := Lib.hid (hl9.mono (lo' := 0) (Nat.zero_le _) (Nat.le_refl _))
    clear hl9
    replace HBD := Lib.hid (low_next HBD.out hb)
    refine hK _ _ ⟨⟨_, HBD.out⟩, rfl⟩ ?_
    clear hK K hb
    refine mix_hold rfl (fun K hK => ?_)
    go_simp
    with_reducible refine (eqTerm_any (k := k) (Hy.out.next HBD.out).top HT9.out hN).mono ?_
    rintro e w109 ⟨rfl, hb⟩
    clear HT9
    replace HBD := Lib.hid (low_next HBD.out hb)
    refine hK _ _ ⟨⟨_, HBD.out⟩, rfl⟩ ?_
    clear hK K hb
    refine mix_see rfl (fun K hK => ?_)
    go_simp
    refine hK _ ?_
    clear hK K
    refine mix_end ?_
    clear hu0 hu1 hu2 hu3 hu4 hu5
    have Hlow' : Hid (Below w.heap.size w w109) := low_next Hlow.out HBD.out
    have Hq' : Hid (Tq (w.heap.size + 1) w.heap.size s v a c k w109) := Hq.out.next HBD.out
    have HS' : Hid (Rw (w.heap.size + 1) bs A w109) := HS.out.next HBD.out
    have Hw' : Hid (Tq wew.heap.size bbw sw vw aw cw kw w109) := Hw.out.next HBD.out
    have Hx' : Hid (Gs wew.heap.size w102.heap.size bs Ax w109) := Hx.out.next HBD.out
    have Hy' : Hid (Xb w102.heap.size w103.heap.size w103.heap.size s v ay cy k w109) := Hy.out.next HBD.out
    have Hg' : Hid (Yb (w103.heap.size + 1) w104.heap.size w104.heap.size sw vw ag cg kw w109) := Hg.out.next HBD.out
    clear Hlow Hq HS Hw Hx Hy Hg
    have Hlow := Hlow'
    clear Hlow'
    have Hq := Hq'
    clear Hq'
    have HS := HS'
    clear HS'
    have Hw := Hw'
    clear Hw'
    have Hx := Hx'
    clear Hx'
    have Hy := Hy'
    clear Hy'
    have Hg := Hg'
    clear Hg'
    clear HBD
    have HBXS := Lib.hid Hx.out.bx
    have hxl := Hx.out.le
    have hyl := Hy.out.lt
    have hyh := Hy.out.hb
    have hylh := Hy.out.lh
    have hgl := Hg.out.lt
    have hgh := Hg.out.hb
    have hglh := Hg.out.lh
    have hwl := Hw.out.le
    have hsl := HS.out.le
    go_wp2_with fail
    with_reducible refine (markBindSs_any bs Ax Cx wew.heap.size w102.heap.size 1 _ HBXS.out hxl (by omega) HZB.out (by omega) (by omega) hmc).mono ?_
    rintro e w110 ⟨rfl, hbm, hfar⟩
    have hslow := Hlow.out.size
    clear Hx HBXS
    have Hlow' : Hid (Below w.heap.size w w110) := Hlow.out.trans (hbm.mono (by omega))
    have Hq' : Hid (Tq (w.heap.size + 1) w.heap.size s v a c k w110) := Hq.out.go hbm (by omega)
    have HS' : Hid (Rw (w.heap.size + 1) bs A w110) := HS.out.go hbm (by omega)
    have Hw' : Hid (Tq wew.heap.size bbw sw vw aw cw kw w110) := Hw.out.go hbm (Nat.le_refl _)
    have Hy' : Hid (Xb w102.heap.size w103.heap.size w103.heap.size s v ay cy k w110) := Hy.out.farB hbm.size hfar (by omega)
    have Hg' : Hid (Yb (w103.heap.size + 1) w104.heap.size w104.heap.size sw vw ag cg kw w110) := Hg.out.farB hbm.size hfar (by omega)
    clear Hlow Hq HS Hw Hy Hg
    have Hlow := Hlow'
    clear Hlow'
    have Hq := Hq'
    clear Hq'
    have HS := HS'
    clear HS'
    have Hw := Hw'
    clear Hw'
    have Hy := Hy'
    clear Hy'
    have Hg := Hg'
    clear Hg'
    clear hbm hfar hxl hyl hyh hylh hgl hgh hglh hwl hsl hslow
    have qy0 := Hy.out.c0
    have qy1 := Hy.out.c1
    have qy2 := Hy.out.c2
    have HSX := Lib.hid Hy.out.sx.2
    have hyl := Hy.out.lt
    have hyh := Hy.out.hb
    have hylh := Hy.out.lh
    have hgl := Hg.out.lt
    have hgh := Hg.out.hb
    have hglh := Hg.out.lh
    have hwl := Hw.out.le
    have hsl := HS.out.le
    go_wp2_with fail
    with_reducible refine (markTerm_any s v ay cy k w102.heap.size w103.heap.size (1 + mcn bs) _ HSX.out hN (by omega) (by omega) (by omega) (by omega)).mono ?_
    rintro e w111 ⟨rfl, hmk⟩
    clear qy0 qy1 qy2
    have hslow := Hlow.out.size
    clear Hy HSX
    have Hlow' : Hid (Below w.heap.size w w111) := Hlow.out.trans (hmk.below.mono (by omega))
    have Hq' : Hid (Tq (w.heap.size + 1) w.heap.size s v a c k w111) := Hq.out.go hmk.below (by omega)
    have HS' : Hid (Rw (w.heap.size + 1) bs A w111) := HS.out.go hmk.below (by omega)
    have Hw' : Hid (Tq wew.heap.size bbw sw vw aw cw kw w111) := Hw.out.go hmk.below (by omega)
    have Hg' : Hid (Yb (w103.heap.size + 1) w104.heap.size w104.heap.size sw vw ag cg kw w111) := Hg.out.far hmk (by omega)
    clear Hlow Hq HS Hw Hg
    have Hlow := Hlow'
    clear Hlow'
    have Hq := Hq'
    clear Hq'
    have HS := HS'
    clear HS'
    have Hw := Hw'
    clear Hw'
    have Hg := Hg'
    clear Hg'
    clear hmk hyl hyh hylh hgl hgh hglh hwl hsl hslow
    have e1 : decide (1 + mcn bs + 2 * (fsz k : Int) < 0) = false := decide_eq_false (by omega)
    have qg0 := Hg.out.c0
    have qg1 := Hg.out.c1
    have qg2 := Hg.out.c2
    have qw0 := Hw.out.c0
    have qw1 := Hw.out.c1
    have qw2 := Hw.out.c2
    go_wp2_with fail
    with_reducible refine (eqTerm_any (k := kw) Hg.out.top Hw.out.top (by omega)).mono ?_
    rintro e w112 ⟨rfl, hb⟩
    clear qg0 qg1 qg2 qw0 qw1 qw2
    have Hlow' : Hid (Below w.heap.size w w112) := low_next Hlow.out hb
    have Hq' : Hid (Tq (w.heap.size + 1) w.heap.size s v a c k w112) := Hq.out.next hb
    have HS' : Hid (Rw (w.heap.size + 1) bs A w112) := HS.out.next hb
    have Hw' : Hid (Tq wew.heap.size bbw sw vw aw cw kw w112) := Hw.out.next hb
    have Hg' : Hid (Yb (w103.heap.size + 1) w104.heap.size w104.heap.size sw vw ag cg kw w112) := Hg.out.next hb
    clear Hlow Hq HS Hw Hg
    have Hlow := Hlow'
    clear Hlow'
    have Hq := Hq'
    clear Hq'
    have HS := HS'
    clear HS'
    have Hw := Hw'
    clear Hw'
    have Hg := Hg'
    clear Hg'
    clear hb
    have qg0 := Hg.out.c0
    have qg1 := Hg.out.c1
    have qg2 := Hg.out.c2
    have HTXG := Lib.hid Hg.out.tx.2
    have hgl := Hg.out.lt
    have hgh := Hg.out.hb
    have hglh := Hg.out.lh
    have hwl := Hw.out.le
    have hsl := HS.out.le
    go_wp2_with fail
    with_reducible refine (markTermT_any sw vw ag cg kw (w103.heap.size + 1) w104.heap.size 1 _ HTXG.out (by omega) (by omega) (by omega) hglh (by omega)).mono ?_
    rintro e w113 ⟨rfl, hmk, hhd⟩
    clear qg0 qg1 qg2
    have hslow := Hlow.out.size
    have Hhn : Hid (Yh (w103.heap.size + 1) w104.heap.size w104.heap.size sw vw ag cg kw 1 w113) := Hg.out.held hmk hhd
    clear Hg HTXG
    have Hlow' : Hid (Below w.heap.size w w113) := Hlow.out.trans (hmk.below.mono (by omega))
    have Hq' : Hid (Tq (w.heap.size + 1) w.heap.size s v a c k w113) := Hq.out.go hmk.below (by omega)
    have HS' : Hid (Rw (w.heap.size + 1) bs A w113) := HS.out.go hmk.below (by omega)
    have Hw' : Hid (Tq wew.heap.size bbw sw vw aw cw kw w113) := Hw.out.go hmk.below (by omega)
    clear Hlow Hq HS Hw
    have Hlow := Hlow'
    clear Hlow'
    have Hq := Hq'
    clear Hq'
    have HS := HS'
    clear HS'
    have Hw := Hw'
    clear Hw'
    have Hh := Hhn
    clear Hhn hmk hhd hgl hgh hglh hwl hsl hslow
    have e2 : decide (1 + 2 * (fsz kw : Int) < 0) = false := decide_eq_false (by omega)
    have e3 : ((1 + 2 * (fsz kw : Int)) != (1 + 2 * (fsz kw : Int))) = false := by simp
    have qh0 := Hh.out.c0
    have qh1 := Hh.out.c1
    have qh2 := Hh.out.c2
    go_wp2_with fail
    with_reducible refine (heldTerm_any sw vw ag cg kw (w103.heap.size + 1) w104.heap.size 1 _ Hh.out.hd (by omega) (by omega) (by omega) (by have := Hh.out.hb; have := Hh.out.lt; omega)).mono ?_
    rintro e w114 ⟨rfl, hb⟩
    clear qh0 qh1 qh2
    have Hlow' : Hid (Below w.heap.size w w114) := low_next Hlow.out hb
    have Hq' : Hid (Tq (w.heap.size + 1) w.heap.size s v a c k w114) := Hq.out.next hb
    have HS' : Hid (Rw (w.heap.size + 1) bs A w114) := HS.out.next hb
    have Hw' : Hid (Tq wew.heap.size bbw sw vw aw cw kw w114) := Hw.out.next hb
    have Hh' : Hid (Yh (w103.heap.size + 1) w104.heap.size w104.heap.size sw vw ag cg kw 1 w114) := Hh.out.next hb
    clear Hlow Hq HS Hw Hh
    have Hlow := Hlow'
    clear Hlow'
    have Hq := Hq'
    clear Hq'
    have HS := HS'
    clear HS'
    have Hw := Hw'
    clear Hw'
    have Hh := Hh'
    clear Hh'
    clear hb
    have hu0 : ∀ u : After w114.heap.size w114, u.world.cell? ⟨w.heap.size, 0, none⟩ = some (.int .i64 s) := fun u => cell_low u.below Hq.out.c0
    have hu1 : ∀ u : After w114.heap.size w114, u.world.cell? ⟨w.heap.size, 1, none⟩ = some (.int .i64 v) := fun u => cell_low u.below Hq.out.c1
    have hu2 : ∀ u : After w114.heap.size w114, u.world.cell? ⟨w.heap.size, 2, none⟩ = some (.slice a (flen k) c) := fun u => cell_low u.below Hq.out.c2
    go_wp2_with fail
    refine wp_region_anyT (fun w' => ∃ u : After w114.heap.size w114, w' = u.world) (by kernel_rfl) ?_
    have HBD : Hid (Below w114.heap.size w114 w114.drew) := (Below.refl _ _).drew
    generalize w114.drew = wdh at *
    refine anyT_look (i := 0) rfl (by kernel_rfl) ⟨⟨_, HBD.out⟩, rfl⟩ (fun K hK => ?_)
    go_simp
    refine hK _ ?_
    clear hK K
    refine anyT_look (i := 2) rfl (by kernel_rfl) ⟨⟨_, HBD.out⟩, rfl⟩ (fun K hK => ?_)
    go_simp
    refine hK _ ?_
    clear hK K
    clear hu0 hu1 hu2
    refine anyT_two (i := 1) (j := 8) (by kernel_rfl) rfl rfl (fun K hK => ?_) (fun K hK => ?_)
    · go_simp
      with_reducible refine (toBindS_any bs A C _ (HS.out.next HBD.out).top (by omega) HZB.out).mono ?_
      rintro e w115 ⟨A5h, C5h, rfl, hb, hs5⟩
      have HR5 := Lib.hid (hs5.bsl.mono (lo' := 0) (Nat.zero_le _) (Nat.le_refl _))
      clear hs5
      replace HBD := Lib.hid (low_next HBD.out hb)
      refine hK _ _ ⟨⟨_, HBD.out⟩, rfl⟩ ?_
      clear hK K hb
      refine anyT_two (i := 3) (j := 8) (by kernel_rfl) rfl rfl (fun K hK => ?_) (fun K hK => ?_)
      · go_simp
        with_reducible refine (toTerm_any (Hq.out.next HBD.out).top hN).mono ?_
        rintro e w116 ⟨a6h, c6h, rfl, hb, hl6⟩
        replace HR5 := Lib.hid ((HR5.out.below hb).mono (Nat.le_refl _) (hb).size)
        have HT6 := Lib.hid (hl6.mono (lo' := 0) (Nat.zero_le _) (Nat.le_refl _))
        clear hl6
        replace HBD := Lib.hid (low_next HBD.out hb)
        refine hK _ _ ⟨⟨_, HBD.out⟩, rfl⟩ ?_
        clear hK K hb
        refine anyT_two (i := 4) (j := 8) (by kernel_rfl) rfl rfl (fun K hK => ?_) (fun K hK => ?_)
        · go_simp
          with_reducible refine (iSubstDo_any bs A5h C5h s v a6h c6h k _ HR5.out (by omega) HT6.out).mono ?_
          rintro e w117 ⟨am, cm, sm, vm, km, tm, hdm, rfl, hb, hlx⟩
          rw [HDw.out] at hdm
          simp only [Prod.mk.injEq] at hdm
          obtain ⟨rfl, rfl, rfl, rfl⟩ := hdm
          have hhi := hb.size
          replace HT6 := Lib.hid ((HT6.out.below hb).mono (Nat.le_refl _) (hb).size)
          replace HR5 := Lib.hid ((HR5.out.below hb).mono (Nat.le_refl _) (hb).size)
          have HLX := Lib.hid hlx
          clear hlx HR5 HT6
          replace HBD := Lib.hid (low_next HBD.out hb)
          refine hK _ _ ⟨⟨_, HBD.out⟩, rfl⟩ ?_
          clear hK K hb
          refine anyT_look (i := 5) rfl (by kernel_rfl) ⟨⟨_, HBD.out⟩, rfl⟩ (fun K hK => ?_)
          go_simp
          refine hK _ ?_
          clear hK K
          refine anyT_look (i := 6) rfl (by kernel_rfl) ⟨⟨_, HBD.out⟩, rfl⟩ (fun K hK => ?_)
          go_simp
          refine hK _ ?_
          clear hK K
          refine anyT_look (i := 7) rfl (by kernel_rfl) ⟨⟨_, HBD.out⟩, rfl⟩ (fun K hK => ?_)
          go_simp
          refine hK _ ?_
          clear hK K
          refine anyT_one (i := 8) (by kernel_rfl) rfl (fun K hK => ?_)
          go_simp
          have HZ := Lib.hid (zb_new w117)
          have hbz : w114.heap.size ≤ w117.heap.size := HBD.out.size
          have hbe : Below w117.heap.size w117 (w117.alloc (.cells #[.int .i64 0, .int .i64 0, .slice none 0 0] 28)) := (Below.refl _ _).alloc (Nat.le_refl _) _
          have hze := hbe.size
          replace HLX := Lib.hid (HLX.out.below hbe)
          replace HBD := Lib.hid (low_next HBD.out hbe)
          refine hK _ _ ⟨⟨_, HBD.out⟩, rfl⟩ ?_
          clear hK K hbe
          generalize hwz : w117.alloc (.cells #[.int .i64 0, .int .i64 0, .slice none 0 0] 28) = wzh at *
          clear hwz
          have hzz0 := HZ.out.z0
          have hzz1 := HZ.out.z1
          have hzz2 := HZ.out.z2
          have hzf0 := HZ.out.f 0
          have hzf1 := HZ.out.f 1
          have hzf2 := HZ.out.f 2
          have HFIN : Hid (Below w114.heap.size w114 (((wzh.setCell ⟨w117.heap.size, 0, none⟩ (.int .i64 sw)).setCell ⟨w117.heap.size, 1, none⟩ (.int .i64 vw)).setCell ⟨w117.heap.size, 2, none⟩ (.slice am (flen kw) cm)) ∧ Tb w117.heap.size sw vw am cm kw (((wzh.setCell ⟨w117.heap.size, 0, none⟩ (.int .i64 sw)).setCell ⟨w117.heap.size, 1, none⟩ (.int .i64 vw)).setCell ⟨w117.heap.size, 2, none⟩ (.slice am (flen kw) cm))) := zb_fin HZ.out HBD.out hbz HLX.out hze (.inr (Nat.le_refl _))
          refine anyT_one (i := 9) (by kernel_rfl) rfl (fun K hK => ?_)
          go_simp
          refine hK _ _ ⟨⟨_, HFIN.out.1⟩, rfl⟩ ?_
          clear hK K hzz0 hzz1 hzz2 hzf0 hzf1 hzf2
          refine anyT_one (i := 10) (by kernel_rfl) rfl (fun K hK => ?_)
          go_simp
          refine hK _ _ ⟨⟨_, HFIN.out.1⟩, rfl⟩ ?_
          clear hK K
          refine anyT_done (by kernel_rfl) ?_
          have HBE := Lib.hid HFIN.out.1
          have HTB := Lib.hid HFIN.out.2
          clear HFIN HZ HLX HBD
          generalize (((wzh.setCell ⟨w117.heap.size, 0, none⟩ (.int .i64 sw)).setCell ⟨w117.heap.size, 1, none⟩ (.int .i64 vw)).setCell ⟨w117.heap.size, 2, none⟩ (.slice am (flen kw) cm)) = weh at *
          have Hlow' : Hid (Below w.heap.size w weh) := low_next Hlow.out HBE.out
          have Hq' : Hid (Tq (w.heap.size + 1) w.heap.size s v a c k weh) := Hq.out.next HBE.out
          have HS' : Hid (Rw (w.heap.size + 1) bs A weh) := HS.out.next HBE.out
          have Hw' : Hid (Tq wew.heap.size bbw sw vw aw cw kw weh) := Hw.out.next HBE.out
          have Hh' : Hid (Yh (w103.heap.size + 1) w104.heap.size w104.heap.size sw vw ag cg kw 1 weh) := Hh.out.next HBE.out
          clear Hlow Hq HS Hw Hh
          have Hlow := Hlow'
          clear Hlow'
          have Hq := Hq'
          clear Hq'
          have HS := HS'
          clear HS'
          have Hw := Hw'
          clear Hw'
          have Hh := Hh'
          clear Hh'
          have hbzlh : w117.heap.size < weh.heap.size := World.block_lt_of_cell? _ _ HTB.out.c0
          obtain ⟨bbh, hbb⟩ : ∃ b, b = w117.heap.size := ⟨_, rfl⟩
          rw [← hbb] at HTB hbzlh ⊢
          have Hm : Hid (Tq weh.heap.size bbh sw vw am cm kw weh) := ⟨HTB.out.c0, HTB.out.c1, HTB.out.c2, hbzlh, HTB.out.sl, Nat.le_refl _⟩
          clear HBE HTB hbb hbzlh hbz
          have qm0 := Hm.out.c0
          have qm1 := Hm.out.c1
          have qm2 := Hm.out.c2
          have qw0 := Hw.out.c0
          have qw1 := Hw.out.c1
          have qw2 := Hw.out.c2
          go_wp2_with fail
          with_reducible refine (eqTerm_any (k := kw) Hm.out.top Hw.out.top (by omega)).mono ?_
          rintro e w118 ⟨rfl, hb⟩
          clear qm0 qm1 qm2 qw0 qw1 qw2
          have Hlow' : Hid (Below w.heap.size w w118) := low_next Hlow.out hb
          have Hq' : Hid (Tq (w.heap.size + 1) w.heap.size s v a c k w118) := Hq.out.next hb
          have HS' : Hid (Rw (w.heap.size + 1) bs A w118) := HS.out.next hb
          have Hw' : Hid (Tq wew.heap.size bbw sw vw aw cw kw w118) := Hw.out.next hb
          have Hh' : Hid (Yh (w103.heap.size + 1) w104.heap.size w104.heap.size sw vw ag cg kw 1 w118) := Hh.out.next hb
          have Hm' : Hid (Tq weh.heap.size bbh sw vw am cm kw w118) := Hm.out.next hb
          clear Hlow Hq HS Hw Hh Hm
          have Hlow := Hlow'
          clear Hlow'
          have Hq := Hq'
          clear Hq'
          have HS := HS'
          clear HS'
          have Hw := Hw'
          clear Hw'
          have Hh := Hh'
          clear Hh'
          have Hm := Hm'
          clear Hm'
          clear hb
          have qh0 := Hh.out.c0
          have qh1 := Hh.out.c1
          have qh2 := Hh.out.c2
          go_wp2_with fail
          with_reducible refine (heldTerm_any sw vw ag cg kw (w103.heap.size + 1) w104.heap.size 1 _ Hh.out.hd (by omega) (by omega) (by omega) (by have := Hh.out.hb; have := Hh.out.lt; omega)).mono ?_
          rintro e w119 ⟨rfl, hb⟩
          clear qh0 qh1 qh2
          have Hlow' : Hid (Below w.heap.size w w119) := low_next Hlow.out hb
          have Hq' : Hid (Tq (w.heap.size + 1) w.heap.size s v a c k w119) := Hq.out.next hb
          have HS' : Hid (Rw (w.heap.size + 1) bs A w119) := HS.out.next hb
          have Hw' : Hid (Tq wew.heap.size bbw sw vw aw cw kw w119) := Hw.out.next hb
          have Hh' : Hid (Yh (w103.heap.size + 1) w104.heap.size w104.heap.size sw vw ag cg kw 1 w119) := Hh.out.next hb
          have Hm' : Hid (Tq weh.heap.size bbh sw vw am cm kw w119) := Hm.out.next hb
          clear Hlow Hq HS Hw Hh Hm
          have Hlow := Hlow'
          clear Hlow'
          have Hq := Hq'
          clear Hq'
          have HS := HS'
          clear HS'
          have Hw := Hw'
          clear Hw'
          have Hh := Hh'
          clear Hh'
          have Hm := Hm'
          clear Hm'
          clear hb
          go_wp2_with fail
          go_ret
          exact ⟨rfl, Hlow.out⟩
        · go_simp
          have HZ := Lib.hid (zb_new w116)
          have hbz : w114.heap.size ≤ w116.heap.size := HBD.out.size
          have hbe : Below w116.heap.size w116 (w116.alloc (.cells #[.int .i64 0, .int .i64 0, .slice none 0 0] 28)) := (Below.refl _ _).alloc (Nat.le_refl _) _
          replace HT6 := Lib.hid ((HT6.out.below hbe).mono (Nat.le_refl _) (hbe).size)
          replace HR5 := Lib.hid ((HR5.out.below hbe).mono (Nat.le_refl _) (hbe).size)
          replace HBD := Lib.hid (low_next HBD.out hbe)
          refine hK _ _ ⟨⟨_, HBD.out⟩, rfl⟩ ?_
          clear hK K hbe
          generalize hwz : w116.alloc (.cells #[.int .i64 0, .int .i64 0, .slice none 0 0] 28) = wzh at *
          clear hwz
          refine anyT_one (i := 4) (by kernel_rfl) rfl (fun K hK => ?_)
          go_simp
          with_reducible refine (iSubstDo_any bs A5h C5h s v a6h c6h k _ HR5.out (by omega) HT6.out).mono ?_
          rintro e w120 ⟨am, cm, sm, vm, km, tm, hdm, rfl, hb, hlx⟩
          rw [HDw.out] at hdm
          simp only [Prod.mk.injEq] at hdm
          obtain ⟨rfl, rfl, rfl, rfl⟩ := hdm
          have hzl := HZ.out.lt
          have hhi := hb.size
          replace HT6 := Lib.hid ((HT6.out.below hb).mono (Nat.le_refl _) (hb).size)
          replace HR5 := Lib.hid ((HR5.out.below hb).mono (Nat.le_refl _) (hb).size)
          replace HZ := Lib.hid (HZ.out.low hb)
          have HLX := Lib.hid hlx
          clear hlx HR5 HT6
          replace HBD := Lib.hid (low_next HBD.out hb)
          refine hK _ _ ⟨⟨_, HBD.out⟩, rfl⟩ ?_
          clear hK K hb
          refine anyT_look (i := 5) rfl (by kernel_rfl) ⟨⟨_, HBD.out⟩, rfl⟩ (fun K hK => ?_)
          go_simp
          refine hK _ ?_
          clear hK K
          refine anyT_look (i := 6) rfl (by kernel_rfl) ⟨⟨_, HBD.out⟩, rfl⟩ (fun K hK => ?_)
          go_simp
          refine hK _ ?_
          clear hK K
          refine anyT_look (i := 7) rfl (by kernel_rfl) ⟨⟨_, HBD.out⟩, rfl⟩ (fun K hK => ?_)
          go_simp
          refine hK _ ?_
          clear hK K
          have hzz0 := HZ.out.z0
          have hzz1 := HZ.out.z1
          have hzz2 := HZ.out.z2
          have hzf0 := HZ.out.f 0
          have hzf1 := HZ.out.f 1
          have hzf2 := HZ.out.f 2
          have HFIN : Hid (Below w114.heap.size w114 (((w120.setCell ⟨w116.heap.size, 0, none⟩ (.int .i64 sw)).setCell ⟨w116.heap.size, 1, none⟩ (.int .i64 vw)).setCell ⟨w116.heap.size, 2, none⟩ (.slice am (flen kw) cm)) ∧ Tb w116.heap.size sw vw am cm kw (((w120.setCell ⟨w116.heap.size, 0, none⟩ (.int .i64 sw)).setCell ⟨w116.heap.size, 1, none⟩ (.int .i64 vw)).setCell ⟨w116.heap.size, 2, none⟩ (.slice am (flen kw) cm))) := zb_fin HZ.out HBD.out hbz HLX.out (Nat.le_refl _) (.inl hzl)
          refine anyT_one (i := 9) (by kernel_rfl) rfl (fun K hK => ?_)
          go_simp
          refine hK _ _ ⟨⟨_, HFIN.out.1⟩, rfl⟩ ?_
          clear hK K hzz0 hzz1 hzz2 hzf0 hzf1 hzf2
          refine anyT_one (i := 10) (by kernel_rfl) rfl (fun K hK => ?_)
          go_simp
          refine hK _ _ ⟨⟨_, HFIN.out.1⟩, rfl⟩ ?_
          clear hK K
          refine anyT_done (by kernel_rfl) ?_
          have HBE := Lib.hid HFIN.out.1
          have HTB := Lib.hid HFIN.out.2
          clear HFIN HZ HLX HBD
          generalize (((w120.setCell ⟨w116.heap.size, 0, none⟩ (.int .i64 sw)).setCell ⟨w116.heap.size, 1, none⟩ (.int .i64 vw)).setCell ⟨w116.heap.size, 2, none⟩ (.slice am (flen kw) cm)) = weh at *
          have Hlow' : Hid (Below w.heap.size w weh) := low_next Hlow.out HBE.out
          have Hq' : Hid (Tq (w.heap.size + 1) w.heap.size s v a c k weh) := Hq.out.next HBE.out
          have HS' : Hid (Rw (w.heap.size + 1) bs A weh) := HS.out.next HBE.out
          have Hw' : Hid (Tq wew.heap.size bbw sw vw aw cw kw weh) := Hw.out.next HBE.out
          have Hh' : Hid (Yh (w103.heap.size + 1) w104.heap.size w104.heap.size sw vw ag cg kw 1 weh) := Hh.out.next HBE.out
          clear Hlow Hq HS Hw Hh
          have Hlow := Hlow'
          clear Hlow'
          have Hq := Hq'
          clear Hq'
          have HS := HS'
          clear HS'
          have Hw := Hw'
          clear Hw'
          have Hh := Hh'
          clear Hh'
          have hbzlh : w116.heap.size < weh.heap.size := World.block_lt_of_cell? _ _ HTB.out.c0
          obtain ⟨bbh, hbb⟩ : ∃ b, b = w116.heap.size := ⟨_, rfl⟩
          rw [← hbb] at HTB hbzlh ⊢
          have Hm : Hid (Tq weh.heap.size bbh sw vw am cm kw weh) := ⟨HTB.out.c0, HTB.out.c1, HTB.out.c2, hbzlh, HTB.out.sl, Nat.le_refl _⟩
          clear HBE HTB hbb hbzlh hbz
          have qm0 := Hm.out.c0
          have qm1 := Hm.out.c1
          have qm2 := Hm.out.c2
          have qw0 := Hw.out.c0
          have qw1 := Hw.out.c1
          have qw2 := Hw.out.c2
          go_wp2_with fail
          with_reducible refine (eqTerm_any (k := kw) Hm.out.top Hw.out.top (by omega)).mono ?_
          rintro e w121 ⟨rfl, hb⟩
          clear qm0 qm1 qm2 qw0 qw1 qw2
          have Hlow' : Hid (Below w.heap.size w w121) := low_next Hlow.out hb
          have Hq' : Hid (Tq (w.heap.size + 1) w.heap.size s v a c k w121) := Hq.out.next hb
          have HS' : Hid (Rw (w.heap.size + 1) bs A w121) := HS.out.next hb
          have Hw' : Hid (Tq wew.heap.size bbw sw vw aw cw kw w121) := Hw.out.next hb
          have Hh' : Hid (Yh (w103.heap.size + 1) w104.heap.size w104.heap.size sw vw ag cg kw 1 w121) := Hh.out.next hb
          have Hm' : Hid (Tq weh.heap.size bbh sw vw am cm kw w121) := Hm.out.next hb
          clear Hlow Hq HS Hw Hh Hm
          have Hlow := Hlow'
          clear Hlow'
          have Hq := Hq'
          clear Hq'
          have HS := HS'
          clear HS'
          have Hw := Hw'
          clear Hw'
          have Hh := Hh'
          clear Hh'
          have Hm := Hm'
          clear Hm'
          clear hb
          have qh0 := Hh.out.c0
          have qh1 := Hh.out.c1
          have qh2 := Hh.out.c2
          go_wp2_with fail
          with_reducible refine (heldTerm_any sw vw ag cg kw (w103.heap.size + 1) w104.heap.size 1 _ Hh.out.hd (by omega) (by omega) (by omega) (by have := Hh.out.hb; have := Hh.out.lt; omega)).mono ?_
          rintro e w122 ⟨rfl, hb⟩
          clear qh0 qh1 qh2
          have Hlow' : Hid (Below w.heap.size w w122) := low_next Hlow.out hb
          have Hq' : Hid (Tq (w.heap.size + 1) w.heap.size s v a c k w122) := Hq.out.next hb
          have HS' : Hid (Rw (w.heap.size + 1) bs A w122) := HS.out.next hb
          have Hw' : Hid (Tq wew.heap.size bbw sw vw aw cw kw w122) := Hw.out.next hb
          have Hh' : Hid (Yh (w103.heap.size + 1) w104.heap.size w104.heap.size sw vw ag cg kw 1 w122) := Hh.out.next hb
          have Hm' : Hid (Tq weh.heap.size bbh sw vw am cm kw w122) := Hm.out.next hb
          clear Hlow Hq HS Hw Hh Hm
          have Hlow := Hlow'
          clear Hlow'
          have Hq := Hq'
          clear Hq'
          have HS := HS'
          clear HS'
          have Hw := Hw'
          clear Hw'
          have Hh := Hh'
          clear Hh'
          have Hm := Hm'
          clear Hm'
          clear hb
          go_wp2_with fail
          go_ret
          exact ⟨rfl, Hlow.out⟩
      · go_simp
        have HZ := Lib.hid (zb_new w115)
        have hbz : w114.heap.size ≤ w115.heap.size := HBD.out.size
        have hbe : Below w115.heap.size w115 (w115.alloc (.cells #[.int .i64 0, .int .i64 0, .slice none 0 0] 28)) := (Below.refl _ _).alloc (Nat.le_refl _) _
        replace HR5 := Lib.hid ((HR5.out.below hbe).mono (Nat.le_refl _) (hbe).size)
        replace HBD := Lib.hid (low_next HBD.out hbe)
        refine hK _ _ ⟨⟨_, HBD.out⟩, rfl⟩ ?_
        clear hK K hbe
        generalize hwz : w115.alloc (.cells #[.int .i64 0, .int .i64 0, .slice none 0 0] 28) = wzh at *
        clear hwz
        refine anyT_one (i := 3) (by kernel_rfl) rfl (fun K hK => ?_)
        go_simp
        with_reducible refine (toTerm_any (Hq.out.next HBD.out).top hN).mono ?_
        rintro e w123 ⟨a6h, c6h, rfl, hb, hl6⟩
        replace HR5 := Lib.hid ((HR5.out.below hb).mono (Nat.le_refl _) (hb).size)
        replace HZ := Lib.hid (HZ.out.low hb)
        have HT6 := Lib.hid (hl6.mono (lo' := 0) (Nat.zero_le _) (Nat.le_refl _))
        clear hl6
        replace HBD := Lib.hid (low_next HBD.out hb)
        refine hK _ _ ⟨⟨_, HBD.out⟩, rfl⟩ ?_
        clear hK K hb
        refine anyT_one (i := 4) (by kernel_rfl) rfl (fun K hK => ?_)
        go_simp
        with_reducible refine (iSubstDo_any bs A5h C5h s v a6h c6h k _ HR5.out (by omega) HT6.out).mono ?_
        rintro e w124 ⟨am, cm, sm, vm, km, tm, hdm, rfl, hb, hlx⟩
        rw [HDw.out] at hdm
        simp only [Prod.mk.injEq] at hdm
        obtain ⟨rfl, rfl, rfl, rfl⟩ := hdm
        have hzl := HZ.out.lt
        have hhi := hb.size
        replace HT6 := Lib.hid ((HT6.out.below hb).mono (Nat.le_refl _) (hb).size)
        replace HR5 := Lib.hid ((HR5.out.below hb).mono (Nat.le_refl _) (hb).size)
        replace HZ := Lib.hid (HZ.out.low hb)
        have HLX := Lib.hid hlx
        clear hlx HR5 HT6
        replace HBD := Lib.hid (low_next HBD.out hb)
        refine hK _ _ ⟨⟨_, HBD.out⟩, rfl⟩ ?_
        clear hK K hb
        refine anyT_look (i := 5) rfl (by kernel_rfl) ⟨⟨_, HBD.out⟩, rfl⟩ (fun K hK => ?_)
        go_simp
        refine hK _ ?_
        clear hK K
        refine anyT_look (i := 6) rfl (by kernel_rfl) ⟨⟨_, HBD.out⟩, rfl⟩ (fun K hK => ?_)
        go_simp
        refine hK _ ?_
        clear hK K
        refine anyT_look (i := 7) rfl (by kernel_rfl) ⟨⟨_, HBD.out⟩, rfl⟩ (fun K hK => ?_)
        go_simp
        refine hK _ ?_
        clear hK K
        have hzz0 := HZ.out.z0
        have hzz1 := HZ.out.z1
        have hzz2 := HZ.out.z2
        have hzf0 := HZ.out.f 0
        have hzf1 := HZ.out.f 1
        have hzf2 := HZ.out.f 2
        have HFIN : Hid (Below w114.heap.size w114 (((w124.setCell ⟨w115.heap.size, 0, none⟩ (.int .i64 sw)).setCell ⟨w115.heap.size, 1, none⟩ (.int .i64 vw)).setCell ⟨w115.heap.size, 2, none⟩ (.slice am (flen kw) cm)) ∧ Tb w115.heap.size sw vw am cm kw (((w124.setCell ⟨w115.heap.size, 0, none⟩ (.int .i64 sw)).setCell ⟨w115.heap.size, 1, none⟩ (.int .i64 vw)).setCell ⟨w115.heap.size, 2, none⟩ (.slice am (flen kw) cm))) := zb_fin HZ.out HBD.out hbz HLX.out (Nat.le_refl _) (.inl hzl)
        refine anyT_one (i := 9) (by kernel_rfl) rfl (fun K hK => ?_)
        go_simp
        refine hK _ _ ⟨⟨_, HFIN.out.1⟩, rfl⟩ ?_
        clear hK K hzz0 hzz1 hzz2 hzf0 hzf1 hzf2
        refine anyT_one (i := 10) (by kernel_rfl) rfl (fun K hK => ?_)
        go_simp
        refine hK _ _ ⟨⟨_, HFIN.out.1⟩, rfl⟩ ?_
        clear hK K
        refine anyT_done (by kernel_rfl) ?_
        have HBE := Lib.hid HFIN.out.1
        have HTB := Lib.hid HFIN.out.2
        clear HFIN HZ HLX HBD
        generalize (((w124.setCell ⟨w115.heap.size, 0, none⟩ (.int .i64 sw)).setCell ⟨w115.heap.size, 1, none⟩ (.int .i64 vw)).setCell ⟨w115.heap.size, 2, none⟩ (.slice am (flen kw) cm)) = weh at *
        have Hlow' : Hid (Below w.heap.size w weh) := low_next Hlow.out HBE.out
        have Hq' : Hid (Tq (w.heap.size + 1) w.heap.size s v a c k weh) := Hq.out.next HBE.out
        have HS' : Hid (Rw (w.heap.size + 1) bs A weh) := HS.out.next HBE.out
        have Hw' : Hid (Tq wew.heap.size bbw sw vw aw cw kw weh) := Hw.out.next HBE.out
        have Hh' : Hid (Yh (w103.heap.size + 1) w104.heap.size w104.heap.size sw vw ag cg kw 1 weh) := Hh.out.next HBE.out
        clear Hlow Hq HS Hw Hh
        have Hlow := Hlow'
        clear Hlow'
        have Hq := Hq'
        clear Hq'
        have HS := HS'
        clear HS'
        have Hw := Hw'
        clear Hw'
        have Hh := Hh'
        clear Hh'
        have hbzlh : w115.heap.size < weh.heap.size := World.block_lt_of_cell? _ _ HTB.out.c0
        obtain ⟨bbh, hbb⟩ : ∃ b, b = w115.heap.size := ⟨_, rfl⟩
        rw [← hbb] at HTB hbzlh ⊢
        have Hm : Hid (Tq weh.heap.size bbh sw vw am cm kw weh) := ⟨HTB.out.c0, HTB.out.c1, HTB.out.c2, hbzlh, HTB.out.sl, Nat.le_refl _⟩
        clear HBE HTB hbb hbzlh hbz
        have qm0 := Hm.out.c0
        have qm1 := Hm.out.c1
        have qm2 := Hm.out.c2
        have qw0 := Hw.out.c0
        have qw1 := Hw.out.c1
        have qw2 := Hw.out.c2
        go_wp2_with fail
        with_reducible refine (eqTerm_any (k := kw) Hm.out.top Hw.out.top (by omega)).mono ?_
        rintro e w125 ⟨rfl, hb⟩
        clear qm0 qm1 qm2 qw0 qw1 qw2
        have Hlow' : Hid (Below w.heap.size w w125) := low_next Hlow.out hb
        have Hq' : Hid (Tq (w.heap.size + 1) w.heap.size s v a c k w125) := Hq.out.next hb
        have HS' : Hid (Rw (w.heap.size + 1) bs A w125) := HS.out.next hb
        have Hw' : Hid (Tq wew.heap.size bbw sw vw aw cw kw w125) := Hw.out.next hb
        have Hh' : Hid (Yh (w103.heap.size + 1) w104.heap.size w104.heap.size sw vw ag cg kw 1 w125) := Hh.out.next hb
        have Hm' : Hid (Tq weh.heap.size bbh sw vw am cm kw w125) := Hm.out.next hb
        clear Hlow Hq HS Hw Hh Hm
        have Hlow := Hlow'
        clear Hlow'
        have Hq := Hq'
        clear Hq'
        have HS := HS'
        clear HS'
        have Hw := Hw'
        clear Hw'
        have Hh := Hh'
        clear Hh'
        have Hm := Hm'
        clear Hm'
        clear hb
        have qh0 := Hh.out.c0
        have qh1 := Hh.out.c1
        have qh2 := Hh.out.c2
        go_wp2_with fail
        with_reducible refine (heldTerm_any sw vw ag cg kw (w103.heap.size + 1) w104.heap.size 1 _ Hh.out.hd (by omega) (by omega) (by omega) (by have := Hh.out.hb; have := Hh.out.lt; omega)).mono ?_
        rintro e w126 ⟨rfl, hb⟩
        clear qh0 qh1 qh2
        have Hlow' : Hid (Below w.heap.size w w126) := low_next Hlow.out hb
        have Hq' : Hid (Tq (w.heap.size + 1) w.heap.size s v a c k w126) := Hq.out.next hb
        have HS' : Hid (Rw (w.heap.size + 1) bs A w126) := HS.out.next hb
        have Hw' : Hid (Tq wew.heap.size bbw sw vw aw cw kw w126) := Hw.out.next hb
        have Hh' : Hid (Yh (w103.heap.size + 1) w104.heap.size w104.heap.size sw vw ag cg kw 1 w126) := Hh.out.next hb
        have Hm' : Hid (Tq weh.heap.size bbh sw vw am cm kw w126) := Hm.out.next hb
        clear Hlow Hq HS Hw Hh Hm
        have Hlow := Hlow'
        clear Hlow'
        have Hq := Hq'
        clear Hq'
        have HS := HS'
        clear HS'
        have Hw := Hw'
        clear Hw'
        have Hh := Hh'
        clear Hh'
        have Hm := Hm'
        clear Hm'
        clear hb
        go_wp2_with fail
        go_ret
        exact ⟨rfl, Hlow.out⟩
    · go_simp
      have HZ := Lib.hid (zb_new wdh)
      have hbz : w114.heap.size ≤ wdh.heap.size := HBD.out.size
      have hbe : Below wdh.heap.size wdh (wdh.alloc (.cells #[.int .i64 0, .int .i64 0, .slice none 0 0] 28)) := (Below.refl _ _).alloc (Nat.le_refl _) _
      replace HBD := Lib.hid (low_next HBD.out hbe)
      refine hK _ _ ⟨⟨_, HBD.out⟩, rfl⟩ ?_
      clear hK K hbe
      generalize hwz : wdh.alloc (.cells #[.int .i64 0, .int .i64 0, .slice none 0 0] 28) = wzh at *
      clear hwz
      refine anyT_one (i := 1) (by kernel_rfl) rfl (fun K hK => ?_)
      go_simp
      with_reducible refine (toBindS_any bs A C _ (HS.out.next HBD.out).top (by omega) HZB.out).mono ?_
      rintro e w127 ⟨A5h, C5h, rfl, hb, hs5⟩
      replace HZ := Lib.hid (HZ.out.low hb)
      have HR5 := Lib.hid (hs5.bsl.mono (lo' := 0) (Nat.zero_le _) (Nat.le_refl _))
      clear hs5
      replace HBD := Lib.hid (low_next HBD.out hb)
      refine hK _ _ ⟨⟨_, HBD.out⟩, rfl⟩ ?_
      clear hK K hb
      refine anyT_one (i := 3) (by kernel_rfl) rfl (fun K hK => ?_)
      go_simp
      with_reducible refine (toTerm_any (Hq.out.next HBD.out).top hN).mono ?_
      rintro e w128 ⟨a6h, c6h, rfl, hb, hl6⟩
      replace HZ := Lib.hid (HZ.out.low hb)
      replace HR5 := Lib.hid ((HR5.out.below hb).mono (Nat.le_refl _) (hb).size)
      have HT6 := Lib.hid (hl6.mono (lo' := 0) (Nat.zero_le _) (Nat.le_refl _))
      clear hl6
      replace HBD := Lib.hid (low_next HBD.out hb)
      refine hK _ _ ⟨⟨_, HBD.out⟩, rfl⟩ ?_
      clear hK K hb
      refine anyT_one (i := 4) (by kernel_rfl) rfl (fun K hK => ?_)
      go_simp
      with_reducible refine (iSubstDo_any bs A5h C5h s v a6h c6h k _ HR5.out (by omega) HT6.out).mono ?_
      rintro e w129 ⟨am, cm, sm, vm, km, tm, hdm, rfl, hb, hlx⟩
      rw [HDw.out] at hdm
      simp only [Prod.mk.injEq] at hdm
      obtain ⟨rfl, rfl, rfl, rfl⟩ := hdm
      have hzl := HZ.out.lt
      have hhi := hb.size
      replace HT6 := Lib.hid ((HT6.out.below hb).mono (Nat.le_refl _) (hb).size)
      replace HZ := Lib.hid (HZ.out.low hb)
      replace HR5 := Lib.hid ((HR5.out.below hb).mono (Nat.le_refl _) (hb).size)
      have HLX := Lib.hid hlx
      clear hlx HR5 HT6
      replace HBD := Lib.hid (low_next HBD.out hb)
      refine hK _ _ ⟨⟨_, HBD.out⟩, rfl⟩ ?_
      clear hK K hb
      refine anyT_look (i := 5) rfl (by kernel_rfl) ⟨⟨_, HBD.out⟩, rfl⟩ (fun K hK => ?_)
      go_simp
      refine hK _ ?_
      clear hK K
      refine anyT_look (i := 6) rfl (by kernel_rfl) ⟨⟨_, HBD.out⟩, rfl⟩ (fun K hK => ?_)
      go_simp
      refine hK _ ?_
      clear hK K
      refine anyT_look (i := 7) rfl (by kernel_rfl) ⟨⟨_, HBD.out⟩, rfl⟩ (fun K hK => ?_)
      go_simp
      refine hK _ ?_
      clear hK K
      have hzz0 := HZ.out.z0
      have hzz1 := HZ.out.z1
      have hzz2 := HZ.out.z2
      have hzf0 := HZ.out.f 0
      have hzf1 := HZ.out.f 1
      have hzf2 := HZ.out.f 2
      have HFIN : Hid (Below w114.heap.size w114 (((w129.setCell ⟨wdh.heap.size, 0, none⟩ (.int .i64 sw)).setCell ⟨wdh.heap.size, 1, none⟩ (.int .i64 vw)).setCell ⟨wdh.heap.size, 2, none⟩ (.slice am (flen kw) cm)) ∧ Tb wdh.heap.size sw vw am cm kw (((w129.setCell ⟨wdh.heap.size, 0, none⟩ (.int .i64 sw)).setCell ⟨wdh.heap.size, 1, none⟩ (.int .i64 vw)).setCell ⟨wdh.heap.size, 2, none⟩ (.slice am (flen kw) cm))) := zb_fin HZ.out HBD.out hbz HLX.out (Nat.le_refl _) (.inl hzl)
      refine anyT_one (i := 9) (by kernel_rfl) rfl (fun K hK => ?_)
      go_simp
      refine hK _ _ ⟨⟨_, HFIN.out.1⟩, rfl⟩ ?_
      clear hK K hzz0 hzz1 hzz2 hzf0 hzf1 hzf2
      refine anyT_one (i := 10) (by kernel_rfl) rfl (fun K hK => ?_)
      go_simp
      refine hK _ _ ⟨⟨_, HFIN.out.1⟩, rfl⟩ ?_
      clear hK K
      refine anyT_done (by kernel_rfl) ?_
      have HBE := Lib.hid HFIN.out.1
      have HTB := Lib.hid HFIN.out.2
      clear HFIN HZ HLX HBD
      generalize (((w129.setCell ⟨wdh.heap.size, 0, none⟩ (.int .i64 sw)).setCell ⟨wdh.heap.size, 1, none⟩ (.int .i64 vw)).setCell ⟨wdh.heap.size, 2, none⟩ (.slice am (flen kw) cm)) = weh at *
      have Hlow' : Hid (Below w.heap.size w weh) := low_next Hlow.out HBE.out
      have Hq' : Hid (Tq (w.heap.size + 1) w.heap.size s v a c k weh) := Hq.out.next HBE.out
      have HS' : Hid (Rw (w.heap.size + 1) bs A weh) := HS.out.next HBE.out
      have Hw' : Hid (Tq wew.heap.size bbw sw vw aw cw kw weh) := Hw.out.next HBE.out
      have Hh' : Hid (Yh (w103.heap.size + 1) w104.heap.size w104.heap.size sw vw ag cg kw 1 weh) := Hh.out.next HBE.out
      clear Hlow Hq HS Hw Hh
      have Hlow := Hlow'
      clear Hlow'
      have Hq := Hq'
      clear Hq'
      have HS := HS'
      clear HS'
      have Hw := Hw'
      clear Hw'
      have Hh := Hh'
      clear Hh'
      have hbzlh : wdh.heap.size < weh.heap.size := World.block_lt_of_cell? _ _ HTB.out.c0
      obtain ⟨bbh, hbb⟩ : ∃ b, b = wdh.heap.size := ⟨_, rfl⟩
      rw [← hbb] at HTB hbzlh ⊢
      have Hm : Hid (Tq weh.heap.size bbh sw vw am cm kw weh) := ⟨HTB.out.c0, HTB.out.c1, HTB.out.c2, hbzlh, HTB.out.sl, Nat.le_refl _⟩
      clear HBE HTB hbb hbzlh hbz
      have qm0 := Hm.out.c0
      have qm1 := Hm.out.c1
      have qm2 := Hm.out.c2
      have qw0 := Hw.out.c0
      have qw1 := Hw.out.c1
      have qw2 := Hw.out.c2
      go_wp2_with fail
      with_reducible refine (eqTerm_any (k := kw) Hm.out.top Hw.out.top (by omega)).mono ?_
      rintro e w130 ⟨rfl, hb⟩
      clear qm0 qm1 qm2 qw0 qw1 qw2
      have Hlow' : Hid (Below w.heap.size w w130) := low_next Hlow.out hb
      have Hq' : Hid (Tq (w.heap.size + 1) w.heap.size s v a c k w130) := Hq.out.next hb
      have HS' : Hid (Rw (w.heap.size + 1) bs A w130) := HS.out.next hb
      have Hw' : Hid (Tq wew.heap.size bbw sw vw aw cw kw w130) := Hw.out.next hb
      have Hh' : Hid (Yh (w103.heap.size + 1) w104.heap.size w104.heap.size sw vw ag cg kw 1 w130) := Hh.out.next hb
      have Hm' : Hid (Tq weh.heap.size bbh sw vw am cm kw w130) := Hm.out.next hb
      clear Hlow Hq HS Hw Hh Hm
      have Hlow := Hlow'
      clear Hlow'
      have Hq := Hq'
      clear Hq'
      have HS := HS'
      clear HS'
      have Hw := Hw'
      clear Hw'
      have Hh := Hh'
      clear Hh'
      have Hm := Hm'
      clear Hm'
      clear hb
      have qh0 := Hh.out.c0
      have qh1 := Hh.out.c1
      have qh2 := Hh.out.c2
      go_wp2_with fail
      with_reducible refine (heldTerm_any sw vw ag cg kw (w103.heap.size + 1) w104.heap.size 1 _ Hh.out.hd (by omega) (by omega) (by omega) (by have := Hh.out.hb; have := Hh.out.lt; omega)).mono ?_
      rintro e w131 ⟨rfl, hb⟩
      clear qh0 qh1 qh2
      have Hlow' : Hid (Below w.heap.size w w131) := low_next Hlow.out hb
      have Hq' : Hid (Tq (w.heap.size + 1) w.heap.size s v a c k w131) := Hq.out.next hb
      have HS' : Hid (Rw (w.heap.size + 1) bs A w131) := HS.out.next hb
      have Hw' : Hid (Tq wew.heap.size bbw sw vw aw cw kw w131) := Hw.out.next hb
      have Hh' : Hid (Yh (w103.heap.size + 1) w104.heap.size w104.heap.size sw vw ag cg kw 1 w131) := Hh.out.next hb
      have Hm' : Hid (Tq weh.heap.size bbh sw vw am cm kw w131) := Hm.out.next hb
      clear Hlow Hq HS Hw Hh Hm
      have Hlow := Hlow'
      clear Hlow'
      have Hq := Hq'
      clear Hq'
      have HS := HS'
      clear HS'
      have Hw := Hw'
      clear Hw'
      have Hh := Hh'
      clear Hh'
      have Hm := Hm'
      clear Hm'
      clear hb
      go_wp2_with fail
      go_ret
      exact ⟨rfl, Hlow.out⟩
end Go.Proofs.Ytpjjaolhmhfoeaa
