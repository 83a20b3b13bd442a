/- Several texts in one: S1, S2, S3. -/
import Derived.Test.YtoafleckcjanaaaKLk8
import Derived.Maps.OwnOps
import Derived.Test.YtoafleckcjanaaaKLk7
import Derived.Laws.OwnMore

/-! S1: substOf: the binds put into a map of nodes. -/
namespace Go.Proofs.Ytoafleckcjanaaa
open Go.RowKit Go.Deep Go.Maps

theorem law : Keyed Try.prog 163 := int_keyed (q := .i64) (by kernel_rfl)
theorem underM : Try.prog.underlying 143 = some (.map 163 107) := by kernel_rfl
theorem key_of {x : Int} (h : (Lit.int .i64 x).wf = true) : keyOf Try.prog 163 (.int .i64 x) = some (.int .i64 x) := keyOf_int_mk (by kernel_rfl) h

/-- What stays where cells stay. -/
theorem NRow.keep {w w' : World} {lo B : Nat} (hk : ∀ q x, w.cell? q = some x → w'.cell? q = some x) : ∀ (k : Fo) (b o : Nat), NRow w lo B k b o → NRow w' lo B k b o
  | .nil, _, _, _ => trivial
  | .node _ _ p k r, b, o, ⟨hl, h0, ⟨val, h1, h2⟩, h5⟩ => by
    refine ⟨hl, h0, ⟨val, hk _ _ h1, ?_⟩, NRow.keep hk r b (o + 1) h5⟩
    rcases h2 with h2 | ⟨e, a, c, e2, h3⟩
    · exact .inl h2
    · refine .inr ⟨e, a, c, e2, ?_⟩
      rcases h3 with h3 | ⟨b', o', e3, h3⟩
      · exact .inl h3
      · exact .inr ⟨b', o', e3, NRow.keep hk k b' o' h3⟩
theorem NodeIs.keep {w w' : World} {lo B : Nat} {val : Value} {s v : Int} {k : Fo} (hk : ∀ q x, w.cell? q = some x → w'.cell? q = some x) (h : NodeIs w lo B val s v k) : NodeIs w' lo B val s v k := by
  rcases h with h | ⟨hs, a, c, e, h⟩
  · exact .inl h
  · refine .inr ⟨hs, a, c, e, ?_⟩
    rcases h with h | ⟨b, o, e2, h⟩
    · exact .inl h
    · exact .inr ⟨b, o, e2, h.keep hk⟩
theorem Row.keep {w w' : World} {lo B : Nat} (hk : ∀ q x, w.cell? q = some x → w'.cell? q = some x) : ∀ (k : Fo) (b o : Nat), Row w lo B k b o → Row w' lo B k b o
  | .nil, _, _, _ => trivial
  | .node _ _ p k r, b, o, ⟨hl, h0, h1, h2, ⟨a, c, h3, h4⟩, h5⟩ => by
    refine ⟨hl, h0, hk _ _ h1, hk _ _ h2, ⟨a, c, hk _ _ h3, ?_⟩, Row.keep hk r b (o + 3) h5⟩
    rcases h4 with h4 | ⟨b', o', e, h4⟩
    · exact .inl h4
    · exact .inr ⟨b', o', e, Row.keep hk k b' o' h4⟩
theorem Sl.keep {w w' : World} {lo B : Nat} {a : Option Addr} {k : Fo} (hk : ∀ q x, w.cell? q = some x → w'.cell? q = some x) (h : Sl w lo B a k) : Sl w' lo B a k := by
  rcases h with h | ⟨b, o, e, h⟩
  · exact .inl h
  · exact .inr ⟨b, o, e, h.keep hk⟩
theorem BSl.keep {w w' : World} {lo B : Nat} {a : Option Addr} {bs : List Bd} (hk : ∀ q x, w.cell? q = some x → w'.cell? q = some x) (h : BSl w lo B a bs) : BSl w' lo B a bs := by
  rcases h with h | ⟨b, o, e, h1, h2, h3⟩
  · exact .inl h
  · refine .inr ⟨b, o, e, h1, h2, fun i x hx => ?_⟩
    obtain ⟨a', c', c0, c1, c2, c3, hl⟩ := h3 i x hx
    exact ⟨a', c', hk _ _ c0, hk _ _ c1, hk _ _ c2, hk _ _ c3, hl.keep hk⟩
/-- Cells stay where a map is written. -/
theorem cells_keep {w w' : World} {b : Nat} {n : Nat} {D : DataW Value} (hm : w.ownsMap Try.prog 163 rdV b n D) (hg : w.grownBy w' (some b)) : ∀ q x, w.cell? q = some x → w'.cell? q = some x := fun q x hq => by
  obtain ⟨es, clock, hb, _⟩ := hm
  refine hg.cell hq fun e => ?_
  have : q.block = b := by simpa using e
  unfold World.cell? at hq
  rw [this, hb] at hq
  cases hq

theorem MapIs.start (w : World) : MapIs (w.alloc (.map #[] 0)) w.heap.size [] :=
  ⟨0, .map [], World.ownsMap_made w Try.prog 163 rdV, Nat.zero_le _, fun x _ => ⟨fun _ => rfl, fun s v k h => by simp [sv] at h⟩⟩
theorem MapIs.below {w w' : World} {b : Nat} {bs : List Bd} (h : MapIs w b bs) (hb : Below w.heap.size w w') : MapIs w' b bs := by
  obtain ⟨n, D, hm, hn, hx⟩ := h
  have hlt := hm.lt
  refine ⟨n, D, ?_, hn, fun x hw => ⟨(hx x hw).1, fun s v k hs => ?_⟩⟩
  · obtain ⟨es, clock, h1, h2⟩ := hm
    exact ⟨es, clock, by rw [hb.block b hlt]; exact h1, h2⟩
  · obtain ⟨h1, nv, h2, h3⟩ := (hx x hw).2 s v k hs
    exact ⟨h1, nv, h2, (h3.below hb).mono (Nat.le_refl _) hb.size⟩
/-- One more bind. -/
theorem MapIs.put {w w' : World} {b n : Nat} {D : DataW Value} {bs : List Bd} {x : Int} {nv : Value} {s v : Int} {k : Fo} (hn : n ≤ 12 + bs.length) (hx : ∀ x : Int, (Lit.int .i64 x).wf = true →
    (sv bs x = none → Maps.has D (.int .i64 x) = false) ∧ ∀ s v k, sv bs x = some (s, v, k) → Maps.has D (.int .i64 x) = true ∧ ∃ nv, D.atKey (.int .i64 x) (.held .nilIface) = .held nv ∧ NodeIs w 0 w.heap.size nv s v k)
    (hm : w.ownsMap Try.prog 163 rdV b n D) (hw : w'.ownsMap Try.prog 163 rdV b (n + 1) (D.put (.int .i64 x) (.held nv))) (hg : w.grownBy w' (some b)) (hv : sv bs x = none) (hnv : NodeIs w 0 w.heap.size nv s v k) : MapIs w' b (bs ++ [(x, s, v, k)]) := by
  have hk := cells_keep hm hg
  have hD := (hm.tidy law).isMap
  refine ⟨n + 1, _, hw, by simp; omega, fun y hy => ?_⟩
  rw [sv_snoc (x := (x, s, v, k)) hv]
  by_cases e : x = y
  · subst e
    rw [if_pos rfl]
    refine ⟨fun h => (by cases h), fun s' v' k' h => ?_⟩
    simp only [Option.some.injEq, Prod.mk.injEq] at h
    obtain ⟨rfl, rfl, rfl⟩ := h
    exact ⟨has_put_same hD (by trivial) _, nv, atKey_put_same hD (by trivial) _ _, (hnv.keep hk).mono (Nat.le_refl _) hg.size⟩
  · rw [if_neg (by exact e)]
    have hne : (Lit.int .i64 y) ≠ (Lit.int .i64 x) := by intro h; simp only [Lit.int.injEq, true_and] at h; exact e h.symm
    refine ⟨fun h => ?_, fun s' v' k' h => ?_⟩
    · rw [has_put_other hne]; exact (hx y hy).1 h
    · obtain ⟨h1, nv', h2, h3⟩ := (hx y hy).2 s' v' k' h
      exact ⟨by rw [has_put_other hne]; exact h1, nv', by rw [atKey_put_other hne]; exact h2, (h3.keep hk).mono (Nat.le_refl _) hg.size⟩
end Go.Proofs.Ytoafleckcjanaaa

/-! S2: substOf. -/
namespace Go.Proofs.Ytoafleckcjanaaa
open Go.RowKit Go.Deep Go.Maps

def SoPost (bs : List Bd) (room : Int) (w : World) (e : Ending) (w' : World) : Prop :=
  Below w.heap.size w w' ∧ ((sok room bs = true ∧ ∃ b, e = .returned (.tuple #[.map (some b), .bool true]) ∧ w.heap.size ≤ b ∧ MapIs w' b bs) ∨ (sok room bs = false ∧ e = .returned (.tuple #[.map none, .bool false])))

theorem drop_bd {bs : List Bd} {j : Nat} {x : Bd} (h : bs[j]? = some x) : bs.drop j = x :: bs.drop (j + 1) := by
  obtain ⟨hj, rfl⟩ := List.getElem?_eq_some_iff.1 h
  exact List.drop_eq_getElem_cons hj

set_option maxRecDepth 100000 in
set_option maxHeartbeats 2000000 in
theorem substOf_any (bs : List Bd) (A : Option Addr) (C : Nat) (room : Int) (w : World) (hb : BSl w 0 w.heap.size A bs) (hl : bs.length ≤ 9223372036854775807) (h1 : 0 ≤ room) (h2 : room ≤ 1000) :
    Calls Try.prog 95 #[.slice A bs.length C, .int .i64 room] w (SoPost bs room w) := by
  have HB := Lib.hid hb
  have HM0 := Lib.hid (MapIs.start w)
  have HL0 : Hid (Below w.heap.size w (w.alloc (.map #[] 0))) := (Below.refl _ _).alloc (Nat.le_refl _) _
  have hmm := @run_makeMap Try.prog
  clear hb
  go_enter Try.func95, Try.ntmps95
  go_wp2_with fail
  go_loopw [7, 15] (fun t i wr => ∃ (j : Nat) (last : Int), t = .int .i64 last ∧ i = .int .i64 j ∧ j ≤ bs.length ∧ -1 ≤ last ∧ (j : Int) ≤ last + 1 ∧ last < 12 ∧ Hid (sok room bs = sokFrom room last (bs.drop j)) ∧ Hid (MapIs wr w.heap.size (bs.take j)) ∧ Hid (Below w.heap.size w wr) ∧ w.heap.size < wr.heap.size ∧ Hid (∀ x, last < x → sv (bs.take j) x = none)) (fun _ i _ => bs.length - (intOf i).toNat)
  case atStart => exact ⟨0, -1, rfl, rfl, Nat.zero_le _, by omega, by omega, by omega, rfl, HM0, HL0, by simp, fun _ _ => rfl⟩
  case round =>
    clear HM0 HL0
    obtain ⟨j, last, rfl, rfl, hj, hl0, hl1, hl2, HS, HM, HLW, hsz, HN⟩ := hrel
    by_cases hlt : j < bs.length
    · obtain ⟨x, hx⟩ : ∃ x, bs[j]? = some x := ⟨bs[j], List.getElem?_eq_getElem hlt⟩
      obtain ⟨xv, s, v, k⟩ := x
      have hbr := HB.out.below HLW.out
      rcases hbr with hbr | ⟨b, o, rfl, _, hbB, hcells⟩
      · subst hbr; simp at hx
      obtain ⟨a', c', c0, c1, c2, c3, hsl⟩ := hcells j _ hx
      dsimp only at c0 c1 c2 c3 hsl
      clear hcells
      have g1 : (0 : Int) ≤ (j : Int) := by omega
      have g2 : (j : Int) < (bs.length : Int) := by omega
      have HX := Lib.hid hx
      have HD := Lib.hid (drop_bd hx)
      clear hx
      have hba : Below wr.heap.size wr (wr.alloc (.cells #[.int .i64 xv, .int .i64 s, .int .i64 v, .slice a' (flen k) c'] 124)) := (Below.refl _ _).alloc (Nat.le_refl _) _
      have HSL := Lib.hid ((hsl.below (hba.mono (Nat.le_of_lt hsz))).mono (lo' := 0) (B' := (wr.alloc (.cells #[.int .i64 xv, .int .i64 s, .int .i64 v, .slice a' (flen k) c'] 124)).heap.size) (Nat.le_refl _) (by simp; omega))
      have HM1 := Lib.hid (HM.out.below hba)
      have HLW1 := Lib.hid (HLW.out.trans (hba.mono (Nat.le_of_lt hsz)))
      clear hsl hba
      go_wp2_with fail
      with_reducible refine (nodeOf_any s v a' c' k room _ HSL.out h1 h2).mono ?_
      rintro e w2 ⟨nv, rfl, hb2, hyes⟩
      have q0 := cell_low hb2 (q := ⟨wr.heap.size, 0, none⟩) (x := .int .i64 xv) (by simp)
      have HM2 := Lib.hid (HM1.out.below hb2)
      have hs2 := hb2.size
      simp at hs2
      have HLW2 := Lib.hid (HLW1.out.trans (hb2.mono (by simp; omega)))
      have HY := Lib.hid hyes
      clear hb2 hyes c0 c1 c2 c3 HM1 HLW1 HSL HM HLW
      cases hok : okW s v k room with
      | false =>
        have HF : Hid (sok room bs = false) := by rw [Hid, HS.out, HD.out]; simp only [sokFrom, hok, Bool.false_and]
        clear hok
        go_wp2_with fail
        refine bodyPost_ret (v := .tuple #[.map none, .bool false]) ?_ rfl ⟨HLW2.out, .inr ⟨HF.out, rfl⟩⟩
        simp [results, Try.results95, go_sem]
      | true =>
        have HY2 := Lib.hid (HY.out hok)
        by_cases hlx : xv ≤ last
        · have HF : Hid (sok room bs = false) := by
            rw [Hid, HS.out, HD.out]; simp only [sokFrom]; rw [decide_eq_false (show ¬ last < xv by omega)]; simp
          have dl : decide (xv ≤ last) = true := decide_eq_true hlx
          clear hok HY
          go_wp2_with fail
          refine bodyPost_ret (v := .tuple #[.map none, .bool false]) ?_ rfl ⟨HLW2.out, .inr ⟨HF.out, rfl⟩⟩
          simp [results, Try.results95, go_sem]
        · have dl : decide (xv ≤ last) = false := decide_eq_false hlx
          by_cases h12 : 12 ≤ xv
          · have HF : Hid (sok room bs = false) := by
              rw [Hid, HS.out, HD.out]; simp only [sokFrom]; rw [decide_eq_false (show ¬ xv < 12 by omega)]; simp
            have dg : decide (xv ≥ 12) = true := decide_eq_true h12
            clear hok HY
            go_wp2_with fail
            refine bodyPost_ret (v := .tuple #[.map none, .bool false]) ?_ rfl ⟨HLW2.out, .inr ⟨HF.out, rfl⟩⟩
            simp [results, Try.results95, go_sem]
          · have dg : decide (xv ≥ 12) = false := decide_eq_false h12
            have HT : Hid (sok room bs = sokFrom room xv (bs.drop (j + 1))) := by
              rw [Hid, HS.out, HD.out]
              simp only [sokFrom, hok]
              rw [decide_eq_true (show last < xv by omega), decide_eq_true (show xv < 12 by omega)]; simp
            have HWF : Hid ((Lit.int .i64 xv).wf = true) := WalkArith.wf_i64 (by omega)
            have HTK : Hid (bs.take (j + 1) = bs.take j ++ [(xv, s, v, k)]) := by rw [Hid, List.take_add_one, HX.out]; rfl
            obtain ⟨n, D, hown, hn, hsv⟩ := HM2.out
            have HOWN := Lib.hid hown
            have HSV := Lib.hid hsv
            have hn12 : n < 100 := by have : (bs.take j).length ≤ j := by rw [List.length_take]; omega
                                      omega
            have hnm : n < maxLen := by unfold maxLen; omega
            have hnl : Hid (n ≤ 12 + (bs.take j).length) := hn
            have HNV : Hid (NodeIs w2 0 w2.heap.size nv s v k) := HY2.out.mono (Nat.zero_le _) (Nat.le_refl _)
            have HKEY := Lib.hid (key_of HWF.out)
            have HNX := Lib.hid (HN.out xv (by omega))
            clear hok HY hown hsv hn
            go_wp2_with (at_mapUpdate; refine wpList_mapUpdate_own (H := Value) _ rfl _ _ _ 143 rfl 163 107 law underM rdV w.heap.size n D rfl HOWN.out hnm (.int .i64 xv) nv (.int .i64 xv) rfl rfl HKEY.out (.held nv) [] rfl ?_; intro w3 hown3 hgrow3; have HM3 := Lib.hid (MapIs.put hnl.out HSV.out HOWN.out hown3 hgrow3 HNX.out HNV.out); have q3 := cells_keep HOWN.out hgrow3 _ _ q0; have HG3 := Lib.hid hgrow3; clear hown3 hgrow3)
            go_roundw
            case rel =>
              refine ⟨j + 1, xv, rfl, by go_num, by omega, by omega, by omega, by omega, HT, ?_, ?_, ?_, ?_⟩
              · rw [HTK.out]; exact HM3
              · exact HLW2.out.grown HG3.out (by omega) (fun g hg => by cases hg; exact Nat.le_refl _)
              · have := HG3.out.size; omega
              · intro y hy
                rw [HTK.out, sv_snoc (x := (xv, s, v, k)) HNX.out]
                rw [if_neg (show xv ≠ y by omega)]
                exact HN.out y (by omega)
            case measure => simp [intOf]; omega
    · have HE : Hid (sok room bs = true) := by rw [Hid, HS.out, List.drop_eq_nil_of_le (by omega)]; rfl
      have HM4 : Hid (MapIs wr w.heap.size bs) := by have := HM.out; rw [List.take_of_length_le (by omega)] at this; exact this
      go_wp2_with fail
      refine bodyPost_ret (v := .tuple #[.map (some w.heap.size), .bool true]) ?_ rfl ⟨HLW.out, .inl ⟨HE.out, w.heap.size, rfl, Nat.le_refl _, HM4.out⟩⟩
      simp [results, Try.results95, go_sem]
end Go.Proofs.Ytoafleckcjanaaa

/-! S3: What is put in: plain; nodes that stay. valueOf, symbolOf. -/
namespace Go.Proofs.Ytoafleckcjanaaa
open Go.RowKit Go.Deep Go.Maps

/-- What variables stand for put into terms of a row. -/
def fsub (σ : Int → Option (Int × Int × Fo)) : Fo → Fo
  | .nil => .nil
  | .node x y p k r => if p.1 = 0 then (match σ p.2 with
      | some t => .node x y (t.1, t.2.1) t.2.2 (fsub σ r)
      | none => .node x y p k (fsub σ r)) else .node x y p (fsub σ k) (fsub σ r)
def tsub (σ : Int → Option (Int × Int × Fo)) (s v : Int) (k : Fo) : Int × Int × Fo := if s = 0 then (σ v).getD (s, v, k) else (s, v, fsub σ k)
theorem fsub_len (σ : Int → Option (Int × Int × Fo)) : ∀ k : Fo, flen (fsub σ k) = flen k
  | .nil => rfl
  | .node _ _ p k r => by
    simp only [fsub]
    split
    · split <;> simp only [flen, fsub_len σ r]
    · simp only [flen, fsub_len σ r]
theorem fsub_at (σ : Int → Option (Int × Int × Fo)) : ∀ (i : Nat) (k : Fo) {x y : Nat} {s v : Int} {kk r : Fo}, fdrop i k = .node x y (s, v) kk r → fdrop i (fsub σ k) = .node x y ((tsub σ s v kk).1, (tsub σ s v kk).2.1) (tsub σ s v kk).2.2 (fdrop (i + 1) (fsub σ k))
  | 0, .nil, _, _, _, _, _, _, h => by simp [fdrop] at h
  | 0, .node _ _ p k r, x, y, s, v, kk, r', h => by
    simp only [fdrop, BT.node.injEq] at h
    obtain ⟨rfl, rfl, rfl, rfl, _⟩ := h
    simp only [fsub, tsub]
    by_cases e : s = 0
    · simp only [if_pos e]
      cases σ v with
      | none => simp [fdrop]
      | some t => simp [fdrop]
    · simp only [if_neg e]
      simp [fdrop]
  | _ + 1, .nil, _, _, _, _, _, _, h => by simp [fdrop] at h
  | n + 1, .node _ _ p k r, x, y, s, v, kk, r', h => by
    simp only [fdrop] at h
    have := fsub_at σ n r h
    simp only [fsub]
    split
    · split <;> simp only [fdrop, this]
    · simp only [fdrop, this]

/-- What stays where all cells but those of no node stay. -/
theorem NRow.keepN {w w' : World} {lo B : Nat} (hk : ∀ q x, w.cell? q = some x → x ≠ .nilIface → w'.cell? q = some x) : ∀ (k : Fo) (b o : Nat), NRow w lo B k b o → NRow w' lo B k b o
  | .nil, _, _, _ => trivial
  | .node _ _ p k r, b, o, ⟨hl, h0, ⟨val, h1, h2⟩, h5⟩ => by
    have hne : val ≠ .nilIface := by
      rcases h2 with ⟨_, _, rfl⟩ | ⟨_, a, c, rfl, _⟩ <;> (intro e; cases e)
    refine ⟨hl, h0, ⟨val, hk _ _ h1 hne, ?_⟩, NRow.keepN hk r b (o + 1) h5⟩
    rcases h2 with h2 | ⟨e, a, c, e2, h3⟩
    · exact .inl h2
    · refine .inr ⟨e, a, c, e2, ?_⟩
      rcases h3 with h3 | ⟨b', o', e3, h3⟩
      · exact .inl h3
      · exact .inr ⟨b', o', e3, NRow.keepN hk k b' o' h3⟩
theorem NodeIs.keepN {w w' : World} {lo B : Nat} {val : Value} {s v : Int} {k : Fo} (hk : ∀ q x, w.cell? q = some x → x ≠ .nilIface → w'.cell? q = some x) (h : NodeIs w lo B val s v k) : NodeIs w' lo B val s v k := by
  rcases h with h | ⟨hs, a, c, e, h⟩
  · exact .inl h
  · refine .inr ⟨hs, a, c, e, ?_⟩
    rcases h with h | ⟨b, o, e2, h⟩
    · exact .inl h
    · exact .inr ⟨b, o, e2, h.keepN hk⟩
theorem nrow_of_allS {w : World} {lo B : Nat} : ∀ (k : Fo) (b o : Nat), lo ≤ b → b < B →
    (∀ i, i < flen k → ∃ x y s v kk val, fdrop i k = .node x y (s, v) kk (fdrop (i + 1) k) ∧ w.cell? ⟨b, o + i, none⟩ = some val ∧ NodeIs w lo B val s v kk) → NRow w lo B k b o
  | .nil, _, _, _, _, _ => trivial
  | .node x y p kk r, b, o, h1, h2, h => by
    obtain ⟨x', y', s, v, kk', val, e, c0, hn⟩ := h 0 (by simp [flen])
    simp only [fdrop, BT.node.injEq] at e
    obtain ⟨_, _, rfl, rfl, _⟩ := e
    refine ⟨h1, h2, ⟨val, by simpa using c0, hn⟩, nrow_of_allS r b (o + 1) h1 h2 fun i hi => ?_⟩
    obtain ⟨x', y', s', v', kk', val', e, c0, hn⟩ := h (i + 1) (by simp [flen]; omega)
    exact ⟨x', y', s', v', kk', val', e, by rw [show o + 1 + i = o + (i + 1) from by omega]; exact c0, hn⟩

theorem zeroE (w : World) : (zeroValue 107).run Try.prog w = .ok .nilIface w := by kernel_rfl

def NvPost (s v : Int) (k : Fo) (w : World) (e : Ending) (w' : World) : Prop := ∃ nv, e = .returned nv ∧ Below w.heap.size w w' ∧ NodeIs w' 0 w'.heap.size nv s v k

set_option maxRecDepth 100000 in
set_option maxHeartbeats 1000000 in
theorem valueOf_any (bs : List Bd) (b : Nat) (x : Int) (w : World) (hm : MapIs w b bs) (hw : (Lit.int .i64 x).wf = true) :
    Calls Try.prog 113 #[.map (some b), .int .i64 x] w (NvPost (tsub (sv bs) 0 x .nil).1 (tsub (sv bs) 0 x .nil).2.1 (tsub (sv bs) 0 x .nil).2.2 w) := by
  obtain ⟨n, D, hown, hn, hsv⟩ := hm
  have HOWN := Lib.hid hown
  have HKEY := Lib.hid (key_of hw)
  have hx := hsv x hw
  have hz := zeroE
  clear hown hsv
  cases hs : sv bs x with
  | none =>
    have hh := hx.1 hs
    have HT : Hid (tsub (sv bs) 0 x .nil = (0, x, .nil)) := by simp [Hid, tsub, hs]
    clear hx hs
    go_enter Try.func113, Try.ntmps113
    go_wp2_with (at_lookup; refine wpList_lookup_own_ok (H := Value) _ rfl _ _ 143 rfl 163 107 law underM rdV (zeroE _) (.held .nilIface) [] rfl b n D rfl HOWN.out (.int .i64 x) (.int .i64 x) rfl HKEY.out ?_; intro nv ps hnv; rw [hh]; clear hnv)
    go_ret
    rw [HT.out]
    exact ⟨_, rfl, Below.refl _ _, .inl ⟨rfl, rfl, rfl⟩⟩
  | some t =>
    obtain ⟨s', v', k'⟩ := t
    obtain ⟨hh, nv0, hat, hnode⟩ := hx.2 s' v' k' hs
    have HT : Hid (tsub (sv bs) 0 x .nil = (s', v', k')) := by simp [Hid, tsub, hs]
    have HNODE := Lib.hid hnode
    have HAT := Lib.hid hat
    clear hx hs hnode hat
    go_enter Try.func113, Try.ntmps113
    go_wp2_with (at_lookup; refine wpList_lookup_own_ok (H := Value) _ rfl _ _ 143 rfl 163 107 law underM rdV (zeroE _) (.held .nilIface) [] rfl b n D rfl HOWN.out (.int .i64 x) (.int .i64 x) rfl HKEY.out ?_; intro nv ps hnv; rw [hh]; have HE : Hid (nv = nv0) := (by have := HAT.out; simp only [rdV, Option.some.injEq, Prod.mk.injEq] at hnv; rw [this] at hnv; exact DataW.held.inj hnv.1); clear hnv)
    go_ret
    rw [HT.out]
    exact ⟨nv, rfl, Below.refl _ _, by rw [HE.out]; exact HNODE.out⟩

set_option maxRecDepth 100000 in
theorem symbolOf_any (s : Int) (a : Option Addr) (n c : Nat) (w : World) :
    Calls Try.prog 114 #[.int .i64 s, .slice a n c] w fun e w' => e = .returned (.iface 166 (.agg #[.int .i64 s, .slice a n c])) ∧ w' = w := by
  go_enter Try.func114, Try.ntmps114
  go_wp2_with fail
  go_ret
  exact ⟨rfl, rfl⟩
end Go.Proofs.Ytoafleckcjanaaa
