/- Several texts in one: S2, WH, P1, P2. -/
import Derived.Test.YtdkcbbhkoibplaaKLn3
import Derived.Maps.AppendAt
import Derived.Deep.AppendLies

/-! S2: substOf. -/
namespace Go.Proofs.Ytdkcbbhkoibplaa
open Go.RowKit Go.Deep Go.Maps

def SoPost (bs : List Bd) (room : Int) (w : World) (e : Ending) (w' : World) : Prop :=
  Below w.heap.size w w' ∧ ((sok room bs = true ∧ ∃ b, e = .returned (.tuple #[.map (some b), .bool true]) ∧ w.heap.size ≤ b ∧ MapIs w' b bs) ∨ (sok room bs = false ∧ e = .returned (.tuple #[.map none, .bool false])))

theorem drop_bd {bs : List Bd} {j : Nat} {x : Bd} (h : bs[j]? = some x) : bs.drop j = x :: bs.drop (j + 1) := by
  obtain ⟨hj, rfl⟩ := List.getElem?_eq_some_iff.1 h
  exact List.drop_eq_getElem_cons hj

set_option maxRecDepth 100000 in
set_option maxHeartbeats 2000000 in
theorem substOf_any (bs : List Bd) (A : Option Addr) (C : Nat) (room : Int) (w : World) (hb : BSl w 0 w.heap.size A bs) (hl : bs.length ≤ 9223372036854775807) (h1 : 0 ≤ room) (h2 : room ≤ 1000) :
    Calls Try.prog 74 #[.slice A bs.length C, .int .i64 room] w (SoPost bs room w) := by
  have HB := Lib.hid hb
  have HM0 := Lib.hid (MapIs.start w)
  have HL0 : Hid (Below w.heap.size w (w.alloc (.map #[] 0))) := (Below.refl _ _).alloc (Nat.le_refl _) _
  have hmm := @run_makeMap Try.prog
  clear hb
  go_enter Try.func74, Try.ntmps74
  go_wp2_with fail
  go_loopw [7, 15] (fun t i wr => ∃ (j : Nat) (last : Int), t = .int .i64 last ∧ i = .int .i64 j ∧ j ≤ bs.length ∧ -1 ≤ last ∧ (j : Int) ≤ last + 1 ∧ last < 12 ∧ Hid (sok room bs = sokFrom room last (bs.drop j)) ∧ Hid (MapIs wr w.heap.size (bs.take j)) ∧ Hid (Below w.heap.size w wr) ∧ w.heap.size < wr.heap.size ∧ Hid (∀ x, last < x → sv (bs.take j) x = none)) (fun _ i _ => bs.length - (intOf i).toNat)
  case atStart => exact ⟨0, -1, rfl, rfl, Nat.zero_le _, by omega, by omega, by omega, rfl, HM0, HL0, by simp, fun _ _ => rfl⟩
  case round =>
    clear HM0 HL0
    obtain ⟨j, last, rfl, rfl, hj, hl0, hl1, hl2, HS, HM, HLW, hsz, HN⟩ := hrel
    by_cases hlt : j < bs.length
    · obtain ⟨x, hx⟩ : ∃ x, bs[j]? = some x := ⟨bs[j], List.getElem?_eq_getElem hlt⟩
      obtain ⟨xv, s, v, k⟩ := x
      have hbr := HB.out.below HLW.out
      rcases hbr with hbr | ⟨b, o, rfl, _, hbB, hcells⟩
      · subst hbr; simp at hx
      obtain ⟨a', c', c0, c1, c2, c3, hsl⟩ := hcells j _ hx
      dsimp only at c0 c1 c2 c3 hsl
      clear hcells
      have g1 : (0 : Int) ≤ (j : Int) := by omega
      have g2 : (j : Int) < (bs.length : Int) := by omega
      have HX := Lib.hid hx
      have HD := Lib.hid (drop_bd hx)
      clear hx
      have hba : Below wr.heap.size wr (wr.alloc (.cells #[.int .i64 xv, .int .i64 s, .int .i64 v, .slice a' (flen k) c'] 131)) := (Below.refl _ _).alloc (Nat.le_refl _) _
      have HSL := Lib.hid ((hsl.below (hba.mono (Nat.le_of_lt hsz))).mono (lo' := 0) (B' := (wr.alloc (.cells #[.int .i64 xv, .int .i64 s, .int .i64 v, .slice a' (flen k) c'] 131)).heap.size) (Nat.le_refl _) (by simp; omega))
      have HM1 := Lib.hid (HM.out.below hba)
      have HLW1 := Lib.hid (HLW.out.trans (hba.mono (Nat.le_of_lt hsz)))
      clear hsl hba
      go_wp2_with fail
      with_reducible refine (nodeOf_any s v a' c' k room _ HSL.out h1 h2).mono ?_
      rintro e w2 ⟨nv, rfl, hb2, hyes⟩
      have q0 := cell_low hb2 (q := ⟨wr.heap.size, 0, none⟩) (x := .int .i64 xv) (by simp)
      have HM2 := Lib.hid (HM1.out.below hb2)
      have hs2 := hb2.size
      simp at hs2
      have HLW2 := Lib.hid (HLW1.out.trans (hb2.mono (by simp; omega)))
      have HY := Lib.hid hyes
      clear hb2 hyes c0 c1 c2 c3 HM1 HLW1 HSL HM HLW
      cases hok : okW s v k room with
      | false =>
        have HF : Hid (sok room bs = false) := by rw [Hid, HS.out, HD.out]; simp only [sokFrom, hok, Bool.false_and]
        clear hok
        go_wp2_with fail
        refine bodyPost_ret (v := .tuple #[.map none, .bool false]) ?_ rfl ⟨HLW2.out, .inr ⟨HF.out, rfl⟩⟩
        simp [results, Try.results74, go_sem]
      | true =>
        have HY2 := Lib.hid (HY.out hok)
        by_cases hlx : xv ≤ last
        · have HF : Hid (sok room bs = false) := by
            rw [Hid, HS.out, HD.out]; simp only [sokFrom]; rw [decide_eq_false (show ¬ last < xv by omega)]; simp
          have dl : decide (xv ≤ last) = true := decide_eq_true hlx
          clear hok HY
          go_wp2_with fail
          refine bodyPost_ret (v := .tuple #[.map none, .bool false]) ?_ rfl ⟨HLW2.out, .inr ⟨HF.out, rfl⟩⟩
          simp [results, Try.results74, go_sem]
        · have dl : decide (xv ≤ last) = false := decide_eq_false hlx
          by_cases h12 : 12 ≤ xv
          · have HF : Hid (sok room bs = false) := by
              rw [Hid, HS.out, HD.out]; simp only [sokFrom]; rw [decide_eq_false (show ¬ xv < 12 by omega)]; simp
            have dg : decide (xv ≥ 12) = true := decide_eq_true h12
            clear hok HY
            go_wp2_with fail
            refine bodyPost_ret (v := .tuple #[.map none, .bool false]) ?_ rfl ⟨HLW2.out, .inr ⟨HF.out, rfl⟩⟩
            simp [results, Try.results74, go_sem]
          · have dg : decide (xv ≥ 12) = false := decide_eq_false h12
            have HT : Hid (sok room bs = sokFrom room xv (bs.drop (j + 1))) := by
              rw [Hid, HS.out, HD.out]
              simp only [sokFrom, hok]
              rw [decide_eq_true (show last < xv by omega), decide_eq_true (show xv < 12 by omega)]; simp
            have HWF : Hid ((Lit.int .i64 xv).wf = true) := WalkArith.wf_i64 (by omega)
            have HTK : Hid (bs.take (j + 1) = bs.take j ++ [(xv, s, v, k)]) := by rw [Hid, List.take_add_one, HX.out]; rfl
            obtain ⟨n, D, hown, hn, hsv⟩ := HM2.out
            have HOWN := Lib.hid hown
            have HSV := Lib.hid hsv
            have hn12 : n < 100 := by have : (bs.take j).length ≤ j := by rw [List.length_take]; omega
                                      omega
            have hnm : n < maxLen := by unfold maxLen; omega
            have hnl : Hid (n ≤ 12 + (bs.take j).length) := hn
            have HNV : Hid (NodeIs w2 0 w2.heap.size nv s v k) := HY2.out.mono (Nat.zero_le _) (Nat.le_refl _)
            have HKEY := Lib.hid (key_of HWF.out)
            have HNX := Lib.hid (HN.out xv (by omega))
            clear hok HY hown hsv hn
            go_wp2_with (at_mapUpdate; refine wpList_mapUpdate_own (H := Value) _ rfl _ _ _ 107 rfl 149 100 law underM rdV w.heap.size n D rfl HOWN.out hnm (.int .i64 xv) nv (.int .i64 xv) rfl rfl HKEY.out (.held nv) [] rfl ?_; intro w3 hown3 hgrow3; have HM3 := Lib.hid (MapIs.put hnl.out HSV.out HOWN.out hown3 hgrow3 HNX.out HNV.out); have q3 := cells_keep HOWN.out hgrow3 _ _ q0; have HG3 := Lib.hid hgrow3; clear hown3 hgrow3)
            go_roundw
            case rel =>
              refine ⟨j + 1, xv, rfl, by go_num, by omega, by omega, by omega, by omega, HT, ?_, ?_, ?_, ?_⟩
              · rw [HTK.out]; exact HM3
              · exact HLW2.out.grown HG3.out (by omega) (fun g hg => by cases hg; exact Nat.le_refl _)
              · have := HG3.out.size; omega
              · intro y hy
                rw [HTK.out, sv_snoc (x := (xv, s, v, k)) HNX.out]
                rw [if_neg (show xv ≠ y by omega)]
                exact HN.out y (by omega)
            case measure => simp [intOf]; omega
    · have HE : Hid (sok room bs = true) := by rw [Hid, HS.out, List.drop_eq_nil_of_le (by omega)]; rfl
      have HM4 : Hid (MapIs wr w.heap.size bs) := by have := HM.out; rw [List.take_of_length_le (by omega)] at this; exact this
      go_wp2_with fail
      refine bodyPost_ret (v := .tuple #[.map (some w.heap.size), .bool true]) ?_ rfl ⟨HLW.out, .inl ⟨HE.out, w.heap.size, rfl, Nat.le_refl _, HM4.out⟩⟩
      simp [results, Try.results74, go_sem]
end Go.Proofs.Ytdkcbbhkoibplaa

/-! WH: l71Bad. -/
namespace Go.Proofs.Ytdkcbbhkoibplaa
open Go.RowKit Go.Deep

theorem own_same {w w2 : World} {base : Nat} {k : Fo} {j : Nat} {A : Option Addr} {C : Nat} (h : Own w base k j A C) (hs : ∀ b, base ≤ b → b < w.heap.size → w2.heap[b]? = w.heap[b]?) (hsz : w.heap.size ≤ w2.heap.size) : Own w2 base k j A C := by
  obtain ⟨xs, hown, hall⟩ := h
  refine ⟨xs, ⟨hown.1, ?_⟩, fun i hi => ?_⟩
  · rcases hown.2 with h2 | ⟨g, cap, cur, h3, h4, h5, h6⟩
    · exact .inl h2
    · have hg : g < w.heap.size := (hown.lt g (by rw [h3]; rfl)).2
      exact .inr ⟨g, cap, cur, h3, h4, by rw [hs g h4 hg]; exact h5, h6⟩
  · obtain ⟨x, y, s', v', kk, a', c', L, H, e, h0, h1, h2, hsl, hL, hH, hg⟩ := hall i hi
    exact ⟨x, y, s', v', kk, a', c', L, H, e, h0, h1, h2, hsl.same (fun b h1 h2 => hs b (by omega) (by omega)), hL, by omega, hg⟩
theorem Own.adv {w w2 : World} {base br p : Nat} {k : Fo} {j : Nat} {A : Option Addr} {C : Nat} (h : Own w base k j A C) (ha : Adv w br p w2) (hb : br < base) : Own w2 base k j A C :=
  own_same h (fun b h1 h2 => by rw [Below.block ha b h2, Below.heap_setCell _ _ _ _ (by simp; omega)]) ha.size

def fsnoc : Fo → Int × Int → Fo
  | .nil, p => .node 0 0 p .nil .nil
  | .node x y q k r, p => .node x y q k (fsnoc r p)
theorem flen_snoc (p : Int × Int) : ∀ k, flen (fsnoc k p) = flen k + 1
  | .nil => rfl
  | .node _ _ _ _ r => by simp only [fsnoc, flen, flen_snoc p r]
theorem fsz_snoc (p : Int × Int) : ∀ k, fsz (fsnoc k p) = fsz k + 1
  | .nil => rfl
  | .node _ _ _ _ r => by simp only [fsnoc, fsz, fsz_snoc p r]; omega
theorem fdrop_snoc (p : Int × Int) : ∀ (i : Nat) (k : Fo) {x y : Nat} {q : Int × Int} {kk : Fo}, fdrop i k = .node x y q kk (fdrop (i + 1) k) → fdrop i (fsnoc k p) = .node x y q kk (fdrop (i + 1) (fsnoc k p))
  | 0, .nil, _, _, _, _, h => by simp [fdrop] at h
  | 0, .node _ _ _ _ r, _, _, _, _, h => by
    simp only [fdrop, BT.node.injEq] at h
    obtain ⟨rfl, rfl, rfl, rfl, _⟩ := h
    simp [fsnoc, fdrop]
  | i + 1, .nil, _, _, _, _, h => by simp [fdrop] at h
  | i + 1, .node _ _ _ _ r, _, _, _, _, h => by
    simp only [fsnoc, fdrop] at h ⊢
    exact fdrop_snoc p i r h
theorem fdrop_snoc_end (p : Int × Int) : ∀ (k : Fo), fdrop (flen k) (fsnoc k p) = .node 0 0 p .nil (fdrop (flen k + 1) (fsnoc k p))
  | .nil => rfl
  | .node _ _ _ _ r => by simp only [fsnoc, flen, fdrop]; exact fdrop_snoc_end p r

/-- Where l71Bad stands: the term's own cells hold (s, v, (A, n, C)), the result's are as laid. -/
structure BadAt (w : World) (br p : Nat) (s v : Int) (A : Option Addr) (n C : Nat) (wc : World) : Prop where
  adv : Adv w br p wc
  rd : Rd wc br p
  size : w.heap.size + 2 ≤ wc.heap.size
  t0 : wc.cell? ⟨w.heap.size, 0, none⟩ = some (.int .i64 s)
  t1 : wc.cell? ⟨w.heap.size, 1, none⟩ = some (.int .i64 v)
  t2 : wc.cell? ⟨w.heap.size, 2, none⟩ = some (.slice A n C)
  f0 : wc.frozen? ⟨w.heap.size, 0, none⟩ = false
  f1 : wc.frozen? ⟨w.heap.size, 1, none⟩ = false
  f2 : wc.frozen? ⟨w.heap.size, 2, none⟩ = false
  r0 : wc.cell? ⟨w.heap.size + 1, 0, none⟩ = some (.int .i64 0)
  r1 : wc.cell? ⟨w.heap.size + 1, 1, none⟩ = some (.int .i64 0)
  r2 : wc.cell? ⟨w.heap.size + 1, 2, none⟩ = some (.slice none 0 0)
  g0 : wc.frozen? ⟨w.heap.size + 1, 0, none⟩ = false
  g1 : wc.frozen? ⟨w.heap.size + 1, 1, none⟩ = false
  g2 : wc.frozen? ⟨w.heap.size + 1, 2, none⟩ = false

theorem BadAt.start {w : World} {br p : Nat} (hr : Rd w br p) (s v : Int) (a : Option Addr) (n c : Nat) :
    BadAt w br p s v a n c ((w.alloc (.cells #[.int .i64 s, .int .i64 v, .slice a n c] 35)).alloc (.cells #[.int .i64 0, .int .i64 0, .slice none 0 0] 35)) := by
  refine ⟨((Adv.start hr (Below.refl _ _)).alloc _).alloc _, (hr.alloc _).alloc _, by simp, ?_, ?_, ?_, ?_, ?_, ?_, ?_, ?_, ?_, ?_, ?_, ?_⟩
  iterate 3
    · rw [World.cell?_alloc_lt _ _ _ (by simp)]; simp
  iterate 3
    · rw [World.frozen?_alloc_old _ _ _ (by simp)]; simp
  iterate 3
    · rw [World.cell?_alloc_at _ _ _ _ (by simp)]; rfl
  iterate 3
    · rw [World.frozen?_alloc_at _ _ _ _ (by simp)]

theorem BadAt.call {w wc w2 : World} {br p p' : Nat} {s v : Int} {A : Option Addr} {n C : Nat} (h : BadAt w br p s v A n C wc) (hbr : br < w.heap.size) (ha : Adv wc br p' w2) : BadAt w br p' s v A n C w2 := by
  have hs := h.size
  have hs2 := ha.size
  refine ⟨h.adv.trans ha, ha.rd h.rd, by omega, ha.cell h.t0 (by simp; omega), ha.cell h.t1 (by simp; omega), ha.cell h.t2 (by simp; omega), ?_, ?_, ?_, ha.cell h.r0 (by simp; omega), ha.cell h.r1 (by simp; omega), ha.cell h.r2 (by simp; omega), ?_, ?_, ?_⟩
  · rw [ha.frozen (by simp; omega)]; exact h.f0
  · rw [ha.frozen (by simp; omega)]; exact h.f1
  · rw [ha.frozen (by simp; omega)]; exact h.f2
  · rw [ha.frozen (by simp; omega)]; exact h.g0
  · rw [ha.frozen (by simp; omega)]; exact h.g1
  · rw [ha.frozen (by simp; omega)]; exact h.g2
theorem BadAt.more {w wc w2 : World} {br p : Nat} {s v : Int} {A : Option Addr} {n C : Nat} (h : BadAt w br p s v A n C wc) (hbr : br < w.heap.size) (hb : Below wc.heap.size wc w2) : BadAt w br p s v A n C w2 :=
  h.call hbr (Adv.start h.rd hb)
/-- Old memory is as it was, the term's and the result's cells too. -/
theorem BadAt.keep {w wc w2 : World} {br p : Nat} {s v : Int} {A : Option Addr} {n C : Nat} (h : BadAt w br p s v A n C wc) (hbr : br < w.heap.size) (hb : Below (w.heap.size + 2) wc w2) (hs : w.heap.size + 2 ≤ w2.heap.size) : BadAt w br p s v A n C w2 := by
  have hsz := h.size
  refine ⟨Below.trans h.adv (hb.mono (by omega)), ?_, hs, ?_, ?_, ?_, ?_, ?_, ?_, ?_, ?_, ?_, ?_, ?_, ?_⟩
  · refine ⟨by omega, ?_, ?_, ?_⟩
    · rw [hb.cell (by simp; omega)]; exact h.rd.place
    · rw [hb.frozen (by simp; omega)]; exact h.rd.free
    · obtain ⟨a, len, cap, h0, h1, h2⟩ := h.rd.text
      refine ⟨a, len, cap, by rw [hb.cell (by simp; omega)]; exact h0, h1, ?_⟩
      rcases h2 with h2 | ⟨b, o, e, h3, h4⟩
      · exact .inl h2
      · refine .inr ⟨b, o, e, h3, fun i hi => ?_⟩
        obtain ⟨x, hx, hc⟩ := h4 i hi
        exact ⟨x, hx, by rw [hb.cell (by simp; omega)]; exact hc⟩
  · rw [hb.cell (by simp)]; exact h.t0
  · rw [hb.cell (by simp)]; exact h.t1
  · rw [hb.cell (by simp)]; exact h.t2
  · rw [hb.frozen (by simp)]; exact h.f0
  · rw [hb.frozen (by simp)]; exact h.f1
  · rw [hb.frozen (by simp)]; exact h.f2
  · rw [hb.cell (by simp)]; exact h.r0
  · rw [hb.cell (by simp)]; exact h.r1
  · rw [hb.cell (by simp)]; exact h.r2
  · rw [hb.frozen (by simp)]; exact h.g0
  · rw [hb.frozen (by simp)]; exact h.g1
  · rw [hb.frozen (by simp)]; exact h.g2
theorem ne_off {b i j : Nat} (h : i ≠ j) : (⟨b, i, none⟩ : Addr) ≠ ⟨b, j, none⟩ := fun e => h (congrArg Addr.off e)
theorem ne_blk {b c i j : Nat} (h : b ≠ c) : (⟨b, i, none⟩ : Addr) ≠ ⟨c, j, none⟩ := fun e => h (congrArg Addr.block e)
theorem Rd.store {w : World} {br p : Nat} (h : Rd w br p) {q : Addr} (hq : br < q.block) (u : Value) : Rd (w.setCell q u) br p := by
  refine ⟨by simpa using h.lt, ?_, by simpa using h.free, ?_⟩
  · rw [World.cell?_setCell_other _ _ _ _ (fun e => by have := congrArg Addr.block e; simp at this; omega)]; exact h.place
  · obtain ⟨a, len, cap, h0, h1, h2⟩ := h.text
    refine ⟨a, len, cap, by rw [World.cell?_setCell_other _ _ _ _ (fun e => by have := congrArg Addr.block e; simp at this; omega)]; exact h0, h1, ?_⟩
    rcases h2 with h2 | ⟨b, o, e, h3, h4⟩
    · exact .inl h2
    · refine .inr ⟨b, o, e, h3, fun i hi => ?_⟩
      obtain ⟨x, hx, hc⟩ := h4 i hi
      exact ⟨x, hx, by rw [World.cell?_setCell_other _ _ _ _ (fun e => by have := congrArg Addr.block e; simp at this; omega)]; exact hc⟩
theorem BadAt.set0 {w wc : World} {br p : Nat} {s v : Int} {A : Option Addr} {n C : Nat} (h : BadAt w br p s v A n C wc) (hbr : br < w.heap.size) (s' : Int) : BadAt w br p s' v A n C (wc.setCell ⟨w.heap.size, 0, none⟩ (.int .i64 s')) := by
  refine ⟨h.adv.store (by simp) _, h.rd.store (by simpa using hbr) _, by simpa using h.size, World.cell?_setCell_same _ _ _ h.t0, ?_, ?_, ?_, ?_, ?_, ?_, ?_, ?_, ?_, ?_, ?_⟩
  · rw [World.cell?_setCell_other _ _ _ _ (ne_off (by omega))]; exact h.t1
  · rw [World.cell?_setCell_other _ _ _ _ (ne_off (by omega))]; exact h.t2
  · rw [World.frozen?_setCell]; exact h.f0
  · rw [World.frozen?_setCell]; exact h.f1
  · rw [World.frozen?_setCell]; exact h.f2
  · rw [World.cell?_setCell_other _ _ _ _ (ne_blk (by omega))]; exact h.r0
  · rw [World.cell?_setCell_other _ _ _ _ (ne_blk (by omega))]; exact h.r1
  · rw [World.cell?_setCell_other _ _ _ _ (ne_blk (by omega))]; exact h.r2
  · rw [World.frozen?_setCell]; exact h.g0
  · rw [World.frozen?_setCell]; exact h.g1
  · rw [World.frozen?_setCell]; exact h.g2
theorem BadAt.set1 {w wc : World} {br p : Nat} {s v : Int} {A : Option Addr} {n C : Nat} (h : BadAt w br p s v A n C wc) (hbr : br < w.heap.size) (v' : Int) : BadAt w br p s v' A n C (wc.setCell ⟨w.heap.size, 1, none⟩ (.int .i64 v')) := by
  refine ⟨h.adv.store (by simp) _, h.rd.store (by simpa using hbr) _, by simpa using h.size, ?_, World.cell?_setCell_same _ _ _ h.t1, ?_, ?_, ?_, ?_, ?_, ?_, ?_, ?_, ?_, ?_⟩
  · rw [World.cell?_setCell_other _ _ _ _ (ne_off (by omega))]; exact h.t0
  · rw [World.cell?_setCell_other _ _ _ _ (ne_off (by omega))]; exact h.t2
  · rw [World.frozen?_setCell]; exact h.f0
  · rw [World.frozen?_setCell]; exact h.f1
  · rw [World.frozen?_setCell]; exact h.f2
  · rw [World.cell?_setCell_other _ _ _ _ (ne_blk (by omega))]; exact h.r0
  · rw [World.cell?_setCell_other _ _ _ _ (ne_blk (by omega))]; exact h.r1
  · rw [World.cell?_setCell_other _ _ _ _ (ne_blk (by omega))]; exact h.r2
  · rw [World.frozen?_setCell]; exact h.g0
  · rw [World.frozen?_setCell]; exact h.g1
  · rw [World.frozen?_setCell]; exact h.g2
theorem BadAt.set2 {w wc : World} {br p : Nat} {s v : Int} {A A' : Option Addr} {n C n' C' : Nat} (h : BadAt w br p s v A n C wc) (hbr : br < w.heap.size) : BadAt w br p s v A' n' C' (wc.setCell ⟨w.heap.size, 2, none⟩ (.slice A' n' C')) := by
  refine ⟨h.adv.store (by simp) _, h.rd.store (by simpa using hbr) _, by simpa using h.size, ?_, ?_, World.cell?_setCell_same _ _ _ h.t2, ?_, ?_, ?_, ?_, ?_, ?_, ?_, ?_, ?_⟩
  · rw [World.cell?_setCell_other _ _ _ _ (ne_off (by omega))]; exact h.t0
  · rw [World.cell?_setCell_other _ _ _ _ (ne_off (by omega))]; exact h.t1
  · rw [World.frozen?_setCell]; exact h.f0
  · rw [World.frozen?_setCell]; exact h.f1
  · rw [World.frozen?_setCell]; exact h.f2
  · rw [World.cell?_setCell_other _ _ _ _ (ne_blk (by omega))]; exact h.r0
  · rw [World.cell?_setCell_other _ _ _ _ (ne_blk (by omega))]; exact h.r1
  · rw [World.cell?_setCell_other _ _ _ _ (ne_blk (by omega))]; exact h.r2
  · rw [World.frozen?_setCell]; exact h.g0
  · rw [World.frozen?_setCell]; exact h.g1
  · rw [World.frozen?_setCell]; exact h.g2
/-- A store past both. -/
theorem BadAt.far {w wc : World} {br p : Nat} {s v : Int} {A : Option Addr} {n C : Nat} (h : BadAt w br p s v A n C wc) (hbr : br < w.heap.size) {q : Addr} (hq : w.heap.size + 2 ≤ q.block) (u : Value) : BadAt w br p s v A n C (wc.setCell q u) := by
  have hne : ∀ {b i : Nat}, b ≤ w.heap.size + 1 → q ≠ ⟨b, i, none⟩ := fun hb e => by have := congrArg Addr.block e; simp at this; omega
  refine ⟨h.adv.store (by omega) _, h.rd.store (by omega) _, by simpa using h.size, ?_, ?_, ?_, ?_, ?_, ?_, ?_, ?_, ?_, ?_, ?_, ?_⟩
  · rw [World.cell?_setCell_other _ _ _ _ (hne (by omega))]; exact h.t0
  · rw [World.cell?_setCell_other _ _ _ _ (hne (by omega))]; exact h.t1
  · rw [World.cell?_setCell_other _ _ _ _ (hne (by omega))]; exact h.t2
  · rw [World.frozen?_setCell]; exact h.f0
  · rw [World.frozen?_setCell]; exact h.f1
  · rw [World.frozen?_setCell]; exact h.f2
  · rw [World.cell?_setCell_other _ _ _ _ (hne (by omega))]; exact h.r0
  · rw [World.cell?_setCell_other _ _ _ _ (hne (by omega))]; exact h.r1
  · rw [World.cell?_setCell_other _ _ _ _ (hne (by omega))]; exact h.r2
  · rw [World.frozen?_setCell]; exact h.g0
  · rw [World.frozen?_setCell]; exact h.g1
  · rw [World.frozen?_setCell]; exact h.g2
/-- The end: the result's cells are stored. -/
theorem BadAt.done {w wc : World} {br p p' K S : Nat} {s v : Int} {A : Option Addr} {C : Nat} {k : Fo} {x y z : Value} (h : BadAt w br p' s v A (flen k) C wc) (h1 : p ≤ p') (h2 : p' ≤ p + K) (h3 : 1 + fsz k ≤ S) (hl : Sl wc (w.heap.size + 2) wc.heap.size A k) :
    DrawnPost br p K S w (.returned (.agg #[.int .i64 s, .int .i64 v, .slice A (flen k) C])) (((wc.setCell ⟨w.heap.size + 1, 0, none⟩ x).setCell ⟨w.heap.size + 1, 1, none⟩ y).setCell ⟨w.heap.size + 1, 2, none⟩ z) := by
  refine ⟨s, v, A, C, k, p', rfl, h1, h2, h3, ((h.adv.store (by simp) _).store (by simp) _).store (by simp) _, ?_⟩
  have hs : Same (w.heap.size + 2) wc.heap.size wc (((wc.setCell ⟨w.heap.size + 1, 0, none⟩ x).setCell ⟨w.heap.size + 1, 1, none⟩ y).setCell ⟨w.heap.size + 1, 2, none⟩ z) :=
    (((Same.setCell (fun _ _ _ => rfl) (.inl (by simp)) _).setCell (.inl (by simp)) _).setCell (.inl (by simp)) _)
  exact (hl.same hs).mono (by omega) (by simp)

theorem Sl.store {w : World} {lo B : Nat} {A : Option Addr} {k : Fo} (h : Sl w lo B A k) {q : Addr} (hq : q.block < lo) (u : Value) : Sl (w.setCell q u) lo B A k := h.same (Same.setCell (fun _ _ _ => rfl) (.inl hq) _)
theorem Sl.low {w w2 : World} {lo : Nat} {A : Option Addr} {k : Fo} (h : Sl w lo w.heap.size A k) (hb : Below w.heap.size w w2) : Sl w2 lo w2.heap.size A k := (h.below hb).mono (Nat.le_refl _) hb.size

/-- The first kid is written over. -/
theorem own_put0 {w : World} {base x y : Nat} {p : Int × Int} {kk r : Fo} {g C : Nat} (h : Own w base (.node x y p kk r) (flen r + 1) (some ⟨g, 0, none⟩) C) (s v : Int) :
    Sl (((w.setCell ⟨g, 0, none⟩ (.int .i64 s)).setCell ⟨g, 1, none⟩ (.int .i64 v)).setCell ⟨g, 2, none⟩ (.slice none 0 0)) base w.heap.size (some ⟨g, 0, none⟩) (.node 0 0 (s, v) .nil r) := by
  obtain ⟨xs, hown, hall⟩ := h
  obtain ⟨g', cap, hv, hb, hlt⟩ := hown.form (by omega)
  simp only [Value.slice.injEq, Option.some.injEq, Addr.mk.injEq] at hv
  obtain ⟨⟨rfl, _⟩, _, rfl⟩ := hv
  have hc := hown.cells (g := g) rfl
  have ha : ∀ n, (⟨g, 0, none⟩ : Addr).add n = ⟨g, n, none⟩ := fun n => by unfold Addr.add; split <;> simp_all
  have hcell : ∀ {i u}, xs[i]? = some u → w.cell? ⟨g, i, none⟩ = some u := fun h => by have := hc _ _ h; rwa [ha] at this
  refine .inr ⟨g, 0, rfl, row_of_all _ g 0 hb hlt fun i hi => ?_⟩
  have hsame : ∀ {L H : Nat}, (g < L ∨ H ≤ g) → Same L H w (((w.setCell ⟨g, 0, none⟩ (.int .i64 s)).setCell ⟨g, 1, none⟩ (.int .i64 v)).setCell ⟨g, 2, none⟩ (.slice none 0 0)) := fun hg =>
    ((Same.setCell (fun _ _ _ => rfl) hg _).setCell hg _).setCell hg _
  obtain ⟨x', y', s', v', k', a', c', L, H, e, h0, h1, h2, hs, hL, hH, hg⟩ := hall 0 (by omega)
  cases i with
  | zero =>
    refine ⟨0, 0, s, v, .nil, none, 0, rfl, ?_, ?_, ?_, .inl rfl⟩
    · rw [World.cell?_setCell_other _ _ _ _ (ne_off (by omega)), World.cell?_setCell_other _ _ _ _ (ne_off (by omega))]
      exact World.cell?_setCell_same _ _ _ (hcell h0)
    · rw [World.cell?_setCell_other _ _ _ _ (ne_off (by omega))]
      refine World.cell?_setCell_same _ _ _ (u := .int .i64 v') ?_
      rw [World.cell?_setCell_other _ _ _ _ (ne_off (by omega))]
      exact hcell h1
    · refine World.cell?_setCell_same _ _ _ (u := .slice a' (flen k') c') ?_
      rw [World.cell?_setCell_other _ _ _ _ (ne_off (by omega)), World.cell?_setCell_other _ _ _ _ (ne_off (by omega))]
      exact hcell h2
  | succ i =>
    obtain ⟨x', y', s', v', k', a', c', L, H, e, h0, h1, h2, hs, hL, hH, hg⟩ := hall (i + 1) (by simp [flen] at hi; omega)
    refine ⟨x', y', s', v', k', a', c', ?_, ?_, ?_, ?_, (hs.same (hsame (hg g rfl))).mono hL hH⟩
    · simpa [fdrop] using e
    · rw [World.cell?_setCell_other _ _ _ _ (ne_off (by omega)), World.cell?_setCell_other _ _ _ _ (ne_off (by omega)), World.cell?_setCell_other _ _ _ _ (ne_off (by omega)), Nat.zero_add]
      exact hcell h0
    · rw [World.cell?_setCell_other _ _ _ _ (ne_off (by omega)), World.cell?_setCell_other _ _ _ _ (ne_off (by omega)), World.cell?_setCell_other _ _ _ _ (ne_off (by omega)), Nat.zero_add]
      exact hcell h1
    · rw [World.cell?_setCell_other _ _ _ _ (ne_off (by omega)), World.cell?_setCell_other _ _ _ _ (ne_off (by omega)), World.cell?_setCell_other _ _ _ _ (ne_off (by omega)), Nat.zero_add]
      exact hcell h2
/-- The cells of the first kid. -/
theorem own_first {w : World} {base : Nat} {k : Fo} {n C : Nat} {A : Option Addr} (h : Own w base k n A C) (hn : 0 < n) :
    ∃ g, A = some ⟨g, 0, none⟩ ∧ base ≤ g ∧ g < w.heap.size ∧ (∃ u, w.cell? ⟨g, 0, none⟩ = some u) ∧ (∃ u, w.cell? ⟨g, 1, none⟩ = some u) ∧ (∃ u, w.cell? ⟨g, 2, none⟩ = some u) ∧
      w.frozen? ⟨g, 0, none⟩ = false ∧ w.frozen? ⟨g, 1, none⟩ = false ∧ w.frozen? ⟨g, 2, none⟩ = false := by
  obtain ⟨xs, hown, hall⟩ := h
  obtain ⟨g, cap, hv, hb, hlt⟩ := hown.form hn
  simp only [Value.slice.injEq] at hv
  obtain ⟨rfl, _, rfl⟩ := hv
  have hc := hown.cells (g := g) rfl
  have ha : ∀ n, (⟨g, 0, none⟩ : Addr).add n = ⟨g, n, none⟩ := fun n => by unfold Addr.add; split <;> simp_all
  have hcell : ∀ {i u}, xs[i]? = some u → w.cell? ⟨g, i, none⟩ = some u := fun h => by have := hc _ _ h; rwa [ha] at this
  obtain ⟨x', y', s', v', k', a', c', L, H, e, h0, h1, h2, hs, hL, hH, hg⟩ := hall 0 hn
  have hfz : ∀ i, w.frozen? ⟨g, i, none⟩ = false := fun i => by
    rcases hown.2 with ⟨h, _⟩ | ⟨g', cap', cur, h3, h4, h5, h6⟩
    · simp at h
    · simp only [Value.slice.injEq, Option.some.injEq, Addr.mk.injEq] at h3
      obtain ⟨⟨rfl, _⟩, _⟩ := h3
      simp [World.frozen?, h5]
  exact ⟨g, rfl, hb, hlt, ⟨_, hcell h0⟩, ⟨_, hcell h1⟩, ⟨_, hcell h2⟩, hfz 0, hfz 1, hfz 2⟩

end Go.Proofs.Ytdkcbbhkoibplaa

/-! P1: Rows of numbers and rows of rows; an append whose source may be nil or empty. Definitions and plain lemmas. -/
namespace Go.Proofs.Ytdkcbbhkoibplaa
open Go.RowKit Go.Deep

/-- A slice's address at which the numbers xs lie. -/
def ISl (w : World) (lo B : Nat) (a : Option Addr) (xs : List Int) : Prop :=
  xs = [] ∨ ∃ b o, a = some ⟨b, o, none⟩ ∧ lo ≤ b ∧ b < B ∧ ∀ i x, xs[i]? = some x → w.cell? ⟨b, o + i, none⟩ = some (.int .i64 x)
theorem ISl.same {w w' : World} {lo B : Nat} {a : Option Addr} {xs : List Int} (hb : Same lo B w w') (h : ISl w lo B a xs) : ISl w' lo B a xs := by
  rcases h with h | ⟨b, o, e, h1, h2, h3⟩
  · exact .inl h
  · exact .inr ⟨b, o, e, h1, h2, fun i x hx => by rw [hb.cell h1 h2]; exact h3 i x hx⟩
theorem ISl.mono {w : World} {lo lo' B B' : Nat} {a : Option Addr} {xs : List Int} (hlo : lo' ≤ lo) (hB : B ≤ B') (h : ISl w lo B a xs) : ISl w lo' B' a xs := by
  rcases h with h | ⟨b, o, e, h1, h2, h3⟩
  · exact .inl h
  · exact .inr ⟨b, o, e, by omega, by omega, h3⟩
theorem ISl.below {w w' : World} {lo B : Nat} {a : Option Addr} {xs : List Int} (hb : Below B w w') (h : ISl w lo B a xs) : ISl w' lo B a xs := h.same (Same.of_below hb)
/-- .. and no more than it has room for. -/
def ISc (w : World) (lo B : Nat) (a : Option Addr) (c : Nat) (xs : List Int) : Prop := ISl w lo B a xs ∧ xs.length ≤ c
theorem ISc.same {w w' : World} {lo B : Nat} {a : Option Addr} {c : Nat} {xs : List Int} (hb : Same lo B w w') (h : ISc w lo B a c xs) : ISc w' lo B a c xs := ⟨h.1.same hb, h.2⟩
theorem ISc.mono {w : World} {lo lo' B B' : Nat} {a : Option Addr} {c : Nat} {xs : List Int} (hlo : lo' ≤ lo) (hB : B ≤ B') (h : ISc w lo B a c xs) : ISc w lo' B' a c xs := ⟨h.1.mono hlo hB, h.2⟩
/-- .. the rows. -/
def RSl (w : World) (lo B : Nat) (a : Option Addr) (rows : List (List Int)) : Prop :=
  rows = [] ∨ ∃ b o, a = some ⟨b, o, none⟩ ∧ lo ≤ b ∧ b < B ∧ ∀ i r, rows[i]? = some r → ∃ a' c', w.cell? ⟨b, o + i, none⟩ = some (.slice a' r.length c') ∧ ISc w lo B a' c' r

theorem RSl.same {w w' : World} {lo B : Nat} {a : Option Addr} {rows : List (List Int)} (hb : Same lo B w w') (h : RSl w lo B a rows) : RSl w' lo B a rows := by
  rcases h with h | ⟨b, o, e, h1, h2, h3⟩
  · exact .inl h
  · refine .inr ⟨b, o, e, h1, h2, fun i x hx => ?_⟩
    obtain ⟨a', c', hc, hi⟩ := h3 i x hx
    exact ⟨a', c', by rw [hb.cell h1 h2]; exact hc, hi.same hb⟩
theorem RSl.mono {w : World} {lo lo' B B' : Nat} {a : Option Addr} {rows : List (List Int)} (hlo : lo' ≤ lo) (hB : B ≤ B') (h : RSl w lo B a rows) : RSl w lo' B' a rows := by
  rcases h with h | ⟨b, o, e, h1, h2, h3⟩
  · exact .inl h
  · refine .inr ⟨b, o, e, by omega, by omega, fun i x hx => ?_⟩
    obtain ⟨a', c', hc, hi⟩ := h3 i x hx
    exact ⟨a', c', hc, hi.mono hlo hB⟩
/-- The positions of the terms of a row, the first of which is number i. -/
def fpl : Fo → Nat → List (List Int)
  | .nil, _ => []
  | .node _ _ _ k r, i => (([] :: fpl k 0).map fun p => (i : Int) :: p) ++ fpl r (i + 1)
/-- The positions of a term. -/
def places (k : Fo) : List (List Int) := [] :: fpl k 0

/-- The source of an append. -/
def Src (w : World) (size : Nat) (A : Option Addr) (m : Nat) (news : List Value) : Prop :=
  news.length = m * size ∧ ((A = none ∧ m = 0) ∨ ∃ ad, A = some ad ∧ ∀ j u, news[j]? = some u → w.cell? (ad.add j) = some u)

section
variable {P : Program} (w : World)
theorem run_append_nil_src (t ty e : TypeId) (i : TypeInfo) (ht : P.underlying t = some (.slice e)) (hi : P.info? e = some i) (base size : Nat) (v : Value) (n : Nat) (xs : List Value) (hown : w.ownsRow base e size v n xs) (c : Nat) :
    (Builtin.append_ #[t, t] ty #[v, .slice none 0 c]).run P w = .ok v w := by
  rcases hown.2 with ⟨rfl, rfl⟩ | ⟨g, cap, cur, rfl, _, _, hnc, _⟩
  · simp [Builtin.append_, Builtin.lenOf, Builtin.firstCells, sizeOf, typeInfo, run_underlying ht, hi]
  · simp [Builtin.append_, Builtin.lenOf, Builtin.firstCells, sizeOf, typeInfo, storeCells, run_underlying ht, hi, hnc]

/-- append onto a row of the call's own, from whatever source; where the new row lies. -/
theorem run_append_src (t ty : TypeId) (base : Nat) (e : TypeId) (i : TypeInfo) (z : Value) (size bytes : Nat) (ht : P.underlying t = some (.slice e)) (hi : P.info? e = some i) (hz : i.zero = some z)
    (hsize : i.size = size) (hby : i.bytes = bytes) (hzs : z.cells.size = size) (hsz : 0 < size)
    (v : Value) (n : Nat) (xs : List Value) (hown : w.ownsRow base e size v n xs) (A : Option Addr) (m c : Nat) (news : List Value) (hsrc : Src w size A m news) (h1 : ∀ u ∈ news, u.oneCell' = true)
    (h63 : n + m ≤ maxLen) (hbytes : (n + m) * bytes ≤ 140737488355328) (hbase : base ≤ w.heap.size) :
    ∃ A' C' w', (Builtin.append_ #[t, t] ty #[v, .slice A m c]).run P w = .ok (.slice A' (n + m) C') w' ∧
      w'.ownsRow base e size (.slice A' (n + m) C') (n + m) (xs ++ news) ∧ w.grownBy w' v.ownBlock ∧ ((Value.slice A' (n + m) C').ownBlock = v.ownBlock ∨ (Value.slice A' (n + m) C').ownBlock = some w.heap.size) := by
  have form : ∀ {w' : World} {v' : Value} {n' : Nat} {ys : List Value}, w'.ownsRow base e size v' n' ys → ∃ A C, v' = .slice A n' C := fun h => by
    rcases h.2 with ⟨rfl, rfl⟩ | ⟨g, cap, cur, rfl, _⟩
    · exact ⟨none, 0, rfl⟩
    · exact ⟨_, _, rfl⟩
  rcases hsrc with ⟨hlen, ⟨rfl, rfl⟩ | ⟨ad, rfl, hc⟩⟩
  · have hn : news = [] := List.eq_nil_of_length_eq_zero (by simpa using hlen)
    subst hn
    obtain ⟨A', C', rfl⟩ := form hown
    refine ⟨A', C', w, run_append_nil_src w t ty e i ht hi base size _ n xs hown c, by simpa using hown, ⟨rfl, rfl, rfl, Nat.le_refl _, fun _ _ _ => rfl⟩, .inl rfl⟩
  · obtain ⟨v', w', hr, h2, h3, _, h5⟩ := run_append_own_at (P := P) w base t ty e i z size bytes ht hi hz hsize hby hzs hsz v n xs hown ad m c news hlen hc h1 h63 hbytes hbase
    obtain ⟨A', C', rfl⟩ := form h2
    exact ⟨A', C', w', hr, h2, h3, h5⟩

theorem wp_append_src {o : Oper} {a : Act} {K : Act → World → Prop} {Q : Exit → Act → World → Prop} (s x : Operand) (t : TypeId) (ho : o.op = .call { callee := .builtin .append, args := #[s, x], argTypes := #[t, t] })
    (base : Nat) (e : TypeId) (i : TypeInfo) (z : Value) (size bytes : Nat) (ht : P.underlying t = some (.slice e)) (hi : P.info? e = some i) (hz : i.zero = some z)
    (hsize : i.size = size) (hby : i.bytes = bytes) (hzs : z.cells.size = size) (hsz : 0 < size)
    (v : Value) (n : Nat) (xs : List Value) (hs : a.eval s = v) (hown : w.ownsRow base e size v n xs) (A : Option Addr) (m c : Nat) (news : List Value) (hx : a.eval x = .slice A m c) (hsrc : Src w size A m news) (h1 : ∀ u ∈ news, u.oneCell' = true)
    (h63 : n + m ≤ maxLen) (hbytes : (n + m) * bytes ≤ 140737488355328) (hbase : base ≤ w.heap.size)
    (h : ∀ A' C' w', w'.ownsRow base e size (.slice A' (n + m) C') (n + m) (xs ++ news) → w.grownBy w' v.ownBlock → ((Value.slice A' (n + m) C').ownBlock = v.ownBlock ∨ (Value.slice A' (n + m) C').ownBlock = some w.heap.size) → K (a.put o.dst (.slice A' (n + m) C')) w') : o.wp P a w K Q := by
  obtain ⟨A', C', w', hr, h2, h3, h4⟩ := run_append_src (P := P) w t o.type base e i z size bytes ht hi hz hsize hby hzs hsz v n xs hown A m c news hsrc h1 h63 hbytes hbase
  unfold Oper.wp execOp
  simp only [ho, resolve, invoke, builtin, Sem.run_bind, Sem.run_pure, Result.andThen_ok, List.map_toArray, List.map_cons, List.map_nil, hs, hx, hr]
  exact h A' C' w' h2 h3 h4
theorem wpList_append_src {ops : Array Oper} {rest : List Oper} {o : Oper} {a : Act} {Q : Exit → Act → World → Prop} (hgd : o.guard = none) (s x : Operand) (t : TypeId) (ho : o.op = .call { callee := .builtin .append, args := #[s, x], argTypes := #[t, t] })
    (base : Nat) (e : TypeId) (i : TypeInfo) (z : Value) (size bytes : Nat) (ht : P.underlying t = some (.slice e)) (hi : P.info? e = some i) (hz : i.zero = some z)
    (hsize : i.size = size) (hby : i.bytes = bytes) (hzs : z.cells.size = size) (hsz : 0 < size)
    (v : Value) (n : Nat) (xs : List Value) (hs : a.eval s = v) (hown : w.ownsRow base e size v n xs) (A : Option Addr) (m c : Nat) (news : List Value) (hx : a.eval x = .slice A m c) (hsrc : Src w size A m news) (h1 : ∀ u ∈ news, u.oneCell' = true)
    (h63 : n + m ≤ maxLen) (hbytes : (n + m) * bytes ≤ 140737488355328) (hbase : base ≤ w.heap.size)
    (h : ∀ A' C' w', w'.ownsRow base e size (.slice A' (n + m) C') (n + m) (xs ++ news) → w.grownBy w' v.ownBlock → ((Value.slice A' (n + m) C').ownBlock = v.ownBlock ∨ (Value.slice A' (n + m) C').ownBlock = some w.heap.size) → wpList P ops Q rest (a.put o.dst (.slice A' (n + m) C')) w') : wpList P ops Q (o :: rest) a w :=
  wpList_plain hgd fun _ hK => wp_append_src w s x t ho base e i z size bytes ht hi hz hsize hby hzs hsz v n xs hs hown A m c news hx hsrc h1 h63 hbytes hbase fun A' C' w' h2 h3 h4 => hK _ _ (h A' C' w' h2 h3 h4)
theorem step_append_src {ops : Array Oper} {o : Oper} {a : Act} {K : Act → World → Prop} {Q : Exit → Act → World → Prop} {E : Prop} (hgd : o.guard = none) (s x : Operand) (t : TypeId) (ho : o.op = .call { callee := .builtin .append, args := #[s, x], argTypes := #[t, t] })
    (base : Nat) (e : TypeId) (i : TypeInfo) (z : Value) (size bytes : Nat) (ht : P.underlying t = some (.slice e)) (hi : P.info? e = some i) (hz : i.zero = some z)
    (hsize : i.size = size) (hby : i.bytes = bytes) (hzs : z.cells.size = size) (hsz : 0 < size)
    (v : Value) (n : Nat) (xs : List Value) (hs : a.eval s = v) (hown : w.ownsRow base e size v n xs) (A : Option Addr) (m c : Nat) (news : List Value) (hx : a.eval x = .slice A m c) (hsrc : Src w size A m news) (h1 : ∀ u ∈ news, u.oneCell' = true)
    (h63 : n + m ≤ maxLen) (hbytes : (n + m) * bytes ≤ 140737488355328) (hbase : base ≤ w.heap.size)
    (h : ∀ A' C' w', w'.ownsRow base e size (.slice A' (n + m) C') (n + m) (xs ++ news) → w.grownBy w' v.ownBlock → ((Value.slice A' (n + m) C').ownBlock = v.ownBlock ∨ (Value.slice A' (n + m) C').ownBlock = some w.heap.size) → K (a.put o.dst (.slice A' (n + m) C')) w') :
    if Region.wanted o (yielded ops a.tmps) = true then Oper.wp P o a w K Q else E := by
  have hw : Region.wanted o (yielded ops a.tmps) = true := by simp [Region.wanted, hgd]
  rw [if_pos hw]
  exact wp_append_src w s x t ho base e i z size bytes ht hi hz hsize hby hzs hsz v n xs hs hown A m c news hx hsrc h1 h63 hbytes hbase h
end

theorem Try.infoI : ∃ i, Try.prog.info? 3 = some i ∧ i.zero = some (.int .i64 0) ∧ i.size = 1 ∧ i.bytes = 8 := by
  have h : (Try.prog.info? 3).map (fun i => (i.zero, i.size, i.bytes)) = some (some (.int .i64 0), 1, 8) := by kernel_rfl
  obtain ⟨i, hi, hz⟩ := Option.map_eq_some_iff.1 h
  simp only [Prod.mk.injEq] at hz
  exact ⟨i, hi, hz.1, hz.2.1, hz.2.2⟩
theorem Try.infoIS : ∃ i, Try.prog.info? 26 = some i ∧ i.zero = some (.slice none 0 0) ∧ i.size = 1 ∧ i.bytes = 24 := by
  have h : (Try.prog.info? 26).map (fun i => (i.zero, i.size, i.bytes)) = some (some (.slice none 0 0), 1, 24) := by kernel_rfl
  obtain ⟨i, hi, hz⟩ := Option.map_eq_some_iff.1 h
  simp only [Prod.mk.injEq] at hz
  exact ⟨i, hi, hz.1, hz.2.1, hz.2.2⟩
end Go.Proofs.Ytdkcbbhkoibplaa

/-! P2: kidsOf; rows of the call's own. -/
namespace Go.Proofs.Ytdkcbbhkoibplaa
open Go.RowKit Go.Deep

def KidsPost (B : Nat) (k : Fo) (w : World) (e : Ending) (w' : World) : Prop := ∃ a c, e = .returned (.slice a (flen k) c) ∧ Below w.heap.size w w' ∧ NSl w 0 B a k

theorem assert_var (v : Int) (w : World) : (Instr.typeAssert (.iface 149 (.int .i64 v)) 100 165 true).run Try.prog w = .ok (.tuple #[.agg #[.int .i64 0, .slice none 0 0], .bool false]) w := by kernel_rfl
theorem assert_sym (s : Int) (a : Option Addr) (n c : Nat) (w : World) : (Instr.typeAssert (.iface 165 (.agg #[.int .i64 s, .slice a n c])) 100 165 true).run Try.prog w = .ok (.tuple #[.agg #[.int .i64 s, .slice a n c], .bool true]) w := by kernel_rfl

set_option maxRecDepth 100000 in
set_option maxHeartbeats 400000 in
theorem kidsOf_any (s v : Int) (k : Fo) (nv : Value) (B : Nat) (w : World) (hn : NodeIs w 0 B nv s v k) : Calls Try.prog 97 #[nv] w (KidsPost B k w) := by
  have hta := assert_var
  have htb := assert_sym
  rcases hn with ⟨rfl, rfl, rfl⟩ | ⟨hs, a, c, rfl, hn⟩
  · go_enter Try.func97, Try.ntmps97
    go_wp2_with fail
    go_ret
    exact ⟨none, 0, rfl, Below.refl _ _, .inl rfl⟩
  · have HN := Lib.hid hn
    clear hn
    go_enter Try.func97, Try.ntmps97
    go_wp2_with fail
    go_ret
    exact ⟨a, c, rfl, (Below.refl _ _).alloc (Nat.le_refl _) _, HN.out⟩

/-- The slice (A, m, C) is a row of rows of the call's own, made from block base on; no row below it lies in its own block. -/
def ROwn (w : World) (base : Nat) (rows : List (List Int)) (A : Option Addr) (C : Nat) : Prop :=
  ∃ xs : List Value, w.ownsRow base 26 1 (.slice A rows.length C) rows.length xs ∧ ∀ (i : Nat) (r : List Int), rows[i]? = some r → ∃ a' c' L H, xs[i]? = some (Value.slice a' r.length c') ∧ ISc w L H a' c' r ∧ base ≤ L ∧ H ≤ w.heap.size ∧
    (∀ g, (Value.slice A rows.length C).ownBlock = some g → g < L ∨ H ≤ g)

theorem ROwn.sl {w : World} {base : Nat} {rows : List (List Int)} {A : Option Addr} {C : Nat} (h : ROwn w base rows A C) : RSl w base w.heap.size A rows := by
  obtain ⟨xs, hown, hall⟩ := h
  rcases Nat.eq_zero_or_pos rows.length with h0 | h0
  · exact .inl (List.eq_nil_of_length_eq_zero h0)
  · obtain ⟨g, cap, hv, hb, hlt⟩ := hown.form h0
    have hA : A = some ⟨g, 0, none⟩ := by simp only [Value.slice.injEq] at hv; exact hv.1
    have hc := hown.cells (g := g) (by rw [hA]; rfl)
    have ha : ∀ n, (⟨g, 0, none⟩ : Addr).add n = ⟨g, 0 + n, none⟩ := fun n => by unfold Addr.add; split <;> simp_all
    refine .inr ⟨g, 0, hA, hb, hlt, fun i r hr => ?_⟩
    obtain ⟨a', c', L, H, hx, hi, hL, hH, _⟩ := hall i r hr
    exact ⟨a', c', by have := hc _ _ hx; rwa [ha] at this, hi.mono hL hH⟩
/-- Numbers that a row of the call's own holds. -/
theorem isl_of_own {w : World} {base : Nat} {A : Option Addr} {C n : Nat} {xs : List Int} (h : w.ownsRow base 3 1 (.slice A n C) n (xs.map (Value.int .i64))) : ISl w base w.heap.size A xs := by
  have hl : xs.length = n := by have := h.1; simpa using this
  rcases Nat.eq_zero_or_pos n with h0 | h0
  · exact .inl (List.eq_nil_of_length_eq_zero (by omega))
  · obtain ⟨g, cap, hv, hb, hlt⟩ := h.form h0
    have hA : A = some ⟨g, 0, none⟩ := by simp only [Value.slice.injEq] at hv; exact hv.1
    have hc := h.cells (g := g) (by rw [hA]; rfl)
    have ha : ∀ n, (⟨g, 0, none⟩ : Addr).add n = ⟨g, 0 + n, none⟩ := fun n => by unfold Addr.add; split <;> simp_all
    refine .inr ⟨g, 0, hA, hb, hlt, fun i x hx => ?_⟩
    have := hc i (.int .i64 x) (by simp [hx])
    rwa [ha] at this
/-- The source of an append of numbers. -/
theorem own_cap {w : World} {base : Nat} {A : Option Addr} {C n e : Nat} {xs : List Value} (h : w.ownsRow base e 1 (.slice A n C) n xs) : n ≤ C := by
  rcases h.2 with ⟨_, h2⟩ | ⟨g, cap, cur, h3, _, _, h6, _⟩
  · omega
  · simp only [Value.slice.injEq] at h3
    omega
theorem isc_of_own {w : World} {base : Nat} {A : Option Addr} {C n : Nat} {xs : List Int} (h : w.ownsRow base 3 1 (.slice A n C) n (xs.map (Value.int .i64))) : ISc w base w.heap.size A C xs :=
  ⟨isl_of_own h, by have := own_cap h; have := h.1; simp at this; omega⟩
theorem src_of_isl {w : World} {lo B : Nat} {a : Option Addr} {xs : List Int} (h : ISl w lo B a xs) (hn : a = none → xs = []) : Src w 1 a xs.length (xs.map (Value.int .i64)) := by
  refine ⟨by simp, ?_⟩
  cases a with
  | none => exact .inl ⟨rfl, by rw [hn rfl]; rfl⟩
  | some ad =>
    refine .inr ⟨ad, rfl, fun j u hu => ?_⟩
    rcases h with h | ⟨b, o, e, h1, h2, h3⟩
    · rw [h] at hu; simp at hu
    · have ha : ad = ⟨b, o, none⟩ := by simpa using e
      subst ha
      rw [List.getElem?_map, Option.map_eq_some_iff] at hu
      obtain ⟨x, hx, rfl⟩ := hu
      rw [show (⟨b, o, none⟩ : Addr).add j = ⟨b, o + j, none⟩ from by unfold Addr.add; split <;> simp_all]
      exact h3 j x hx
theorem isl_none {w : World} {lo B : Nat} {xs : List Int} (h : ISl w lo B none xs) : xs = [] := by
  rcases h with h | ⟨b, o, e, _⟩
  · exact h
  · cases e
end Go.Proofs.Ytdkcbbhkoibplaa
