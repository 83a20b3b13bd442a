/- Several texts in one: P4, TP, WI. -/
import Derived.Test.YtiinmlagcbjloaaGreatKAll6
import Derived.Deep.RegionHeld3
import Derived.Deep.DrawnRows
import Derived.Test.YtiinmlagcbjloaaGreatKAll3
import Derived.Test.YtiinmlagcbjloaaGreatKAll5

/-! P4: l1Places: the positions of a term, each behind some. -/
namespace Go.Proofs.YtiinmlagcbjloaaGreat
open Go.RowKit Go.Deep
attribute [local go_sem ↓] Go.wp_at_zero Go.wp_at_succ

def LpPost (k : Fo) (head : List Int) (w : World) (e : Ending) (w' : World) : Prop :=
  ∃ A C, e = .returned (.slice A (1 + fsz k) C) ∧ Below w.heap.size w w' ∧ RSl w' w.heap.size w'.heap.size A ((places k).map (head ++ ·))

theorem own_empty {W : World} {base g : Nat} (h : W.heap[g]? = some (.cells #[] 3 (0, 0))) (hb : base ≤ g) : W.ownsRow base 3 1 (.slice (some ⟨g, 0, none⟩) 0 0) 0 [] :=
  ⟨rfl, .inr ⟨g, 0, #[], rfl, hb, h, Nat.le_refl _, Nat.zero_le _, rfl, rfl⟩⟩

/-- The cells of a row of rows, as a list. -/
theorem rsl_news {w : World} {lo B : Nat} {a : Option Addr} {rows : List (List Int)} (h : RSl w lo B a rows) (hn : a = none → rows = []) :
    ∃ news : List Value, Src w 1 a rows.length news ∧ (∀ u ∈ news, u.oneCell' = true) ∧ ∀ (i : Nat) (r : List Int), rows[i]? = some r → ∃ a' c', news[i]? = some (Value.slice a' r.length c') ∧ ISc w lo B a' c' r := by
  rcases h with rfl | ⟨b, o, rfl, h1, h2, h3⟩
  · refine ⟨[], ⟨rfl, ?_⟩, by simp, by simp⟩
    cases a with
    | none => exact .inl ⟨rfl, rfl⟩
    | some ad => exact .inr ⟨ad, rfl, by simp⟩
  · refine ⟨(List.range rows.length).map fun i => (w.cell? ⟨b, o + i, none⟩).getD undef, ⟨by simp, .inr ⟨_, rfl, fun j u hu => ?_⟩⟩, fun u hu => ?_, fun i r hr => ?_⟩
    · rw [show (⟨b, o, none⟩ : Addr).add j = ⟨b, o + j, none⟩ from by unfold Addr.add; split <;> simp_all]
      rw [List.getElem?_map, Option.map_eq_some_iff] at hu
      obtain ⟨j', hj, rfl⟩ := hu
      have hj' := List.getElem?_eq_some_iff.1 hj
      obtain ⟨hlt, he⟩ := hj'
      simp at he hlt
      subst he
      obtain ⟨a', c', hc, _⟩ := h3 j rows[j] (List.getElem?_eq_getElem hlt)
      rw [hc]
      rfl
    · simp only [List.mem_map, List.mem_range] at hu
      obtain ⟨j, hj, rfl⟩ := hu
      obtain ⟨a', c', hc, _⟩ := h3 j rows[j] (List.getElem?_eq_getElem hj)
      rw [hc]
      rfl
    · obtain ⟨a', c', hc, hi⟩ := h3 i r hr
      have hlt := (List.getElem?_eq_some_iff.1 hr).1
      refine ⟨a', c', ?_, hi⟩
      rw [List.getElem?_map, List.getElem?_range hlt]
      simp [hc]

/-- Rows are appended, all that they lead to made since. -/
theorem ROwn.many {w w2 w3 : World} {base : Nat} {rows rows2 : List (List Int)} {A A' : Option Addr} {C C' : Nat} {xs news : List Value} (hown : w.ownsRow base 23 1 (.slice A rows.length C) rows.length xs)
    (hall : ∀ (i : Nat) (r : List Int), rows[i]? = some r → ∃ a' c' L H, xs[i]? = some (Value.slice a' r.length c') ∧ ISc w L H a' c' r ∧ base ≤ L ∧ H ≤ w.heap.size ∧ (∀ g, (Value.slice A rows.length C).ownBlock = some g → g < L ∨ H ≤ g))
    (hown3 : w3.ownsRow base 23 1 (.slice A' (rows.length + rows2.length) C') (rows.length + rows2.length) (xs ++ news)) (hb2 : Below w.heap.size w w2) (hbase : base ≤ w.heap.size)
    (hnews : ∀ (i : Nat) (r : List Int), rows2[i]? = some r → ∃ a' c', news[i]? = some (Value.slice a' r.length c') ∧ ISc w2 w.heap.size w2.heap.size a' c' r)
    (hgrow : w2.grownBy w3 (Value.slice A rows.length C).ownBlock) (hat : (Value.slice A' (rows.length + rows2.length) C').ownBlock = (Value.slice A rows.length C).ownBlock ∨ (Value.slice A' (rows.length + rows2.length) C').ownBlock = some w2.heap.size) : ROwn w3 base (rows ++ rows2) A' C' := by
  have hs2 := hb2.size
  have hs3 := hgrow.size
  have hxl : xs.length = rows.length := by have := hown.1; omega
  have hl : (rows ++ rows2).length = rows.length + rows2.length := by simp
  rw [ROwn, hl]
  refine ⟨_, hown3, fun i r' hr => ?_⟩
  have hcond : ∀ {L H : Nat}, (∀ g, (Value.slice A rows.length C).ownBlock = some g → g < L ∨ H ≤ g) → H ≤ w2.heap.size → ∀ g', (Value.slice A' (rows.length + rows2.length) C').ownBlock = some g' → g' < L ∨ H ≤ g' := fun hg hH g' hg' => by
    rcases hat with h1 | h1
    · exact hg g' (by rw [← h1]; exact hg')
    · rw [h1] at hg'; simp at hg'; omega
  by_cases hi : i < rows.length
  · rw [List.getElem?_append_left hi] at hr
    obtain ⟨a', c', L, H, hx, hsl, hL, hH, hg⟩ := hall i r' hr
    refine ⟨a', c', L, H, by rw [List.getElem?_append_left (by omega)]; exact hx, hsl.same (fun b h1 h2 => ?_), hL, by omega, hcond hg (by omega)⟩
    rw [hgrow.block b (by omega) (fun e => by have := hg b e.symm; omega), hb2.block b (by omega)]
  · rw [List.getElem?_append_right (by omega)] at hr
    obtain ⟨a', c', hx, hsl⟩ := hnews _ _ hr
    refine ⟨a', c', w.heap.size, w2.heap.size, by rw [List.getElem?_append_right (by omega), hxl]; exact hx, hsl.same (fun b h1 h2 => ?_), hbase, by omega, hcond (fun g hg => .inl (hown.lt _ hg).2) (Nat.le_refl _)⟩
    rw [hgrow.block b (by omega) (fun e => by have := (hown.lt b e.symm).2; omega)]

/-- The first row: the head's own copy. -/
theorem lp_start {w1 : World} {base : Nat} {A1 : Option Addr} {C1 : Nat} {head : List Int} (hown : w1.ownsRow base 3 1 (.slice A1 head.length C1) head.length (head.map (Value.int .i64))) (hb : base ≤ w1.heap.size) :
    ROwn (w1.alloc (.cells #[.slice A1 head.length C1] 23)) base [head] (some ⟨w1.heap.size, 0, none⟩) 1 := by
  refine ⟨[.slice A1 head.length C1], ⟨rfl, .inr ⟨w1.heap.size, 1, #[.slice A1 head.length C1], rfl, hb, heap_alloc_new _ _, Nat.le_refl _, by decide, rfl, rfl⟩⟩, fun i r hr => ?_⟩
  have hi : i = 0 := by
    have := (List.getElem?_eq_some_iff.1 hr).1
    simp at this
    exact this
  subst hi
  simp at hr
  subst hr
  exact ⟨A1, C1, base, w1.heap.size, rfl, (isc_of_own hown).same (fun b _ h2 => Below.heap_alloc _ _ _ h2), Nat.le_refl _, by simp, fun g hg => .inr (by simp [Value.ownBlock] at hg; omega)⟩

/-- step_append_src, the world read off the goal. -/
theorem step_src {P : Program} {w : World} {ops : Array Oper} {o : Oper} {a : Act} {K : Act → World → Prop} {Q : Exit → Act → World → Prop} {E : Prop} (hgd : o.guard = none) (s x : Operand) (t : TypeId) (ho : o.op = .call { callee := .builtin .append, args := #[s, x], argTypes := #[t, t] })
    (base : Nat) (e : TypeId) (i : TypeInfo) (z : Value) (size bytes : Nat) (ht : P.underlying t = some (.slice e)) (hi : P.info? e = some i) (hz : i.zero = some z)
    (hsize : i.size = size) (hby : i.bytes = bytes) (hzs : z.cells.size = size) (hsz : 0 < size)
    (v : Value) (n : Nat) (xs : List Value) (hs : a.eval s = v) (hown : w.ownsRow base e size v n xs) (A : Option Addr) (m c : Nat) (news : List Value) (hx : a.eval x = .slice A m c) (hsrc : Src w size A m news) (h1 : ∀ u ∈ news, u.oneCell' = true)
    (h63 : n + m ≤ maxLen) (hbytes : (n + m) * bytes ≤ 140737488355328) (hbase : base ≤ w.heap.size)
    (h : ∀ A' C' w', w'.ownsRow base e size (.slice A' (n + m) C') (n + m) (xs ++ news) → w.grownBy w' v.ownBlock → ((Value.slice A' (n + m) C').ownBlock = v.ownBlock ∨ (Value.slice A' (n + m) C').ownBlock = some w.heap.size) → K (a.put o.dst (.slice A' (n + m) C')) w') :
    if Region.wanted o (yielded ops a.tmps) = true then Oper.wp P o a w K Q else E :=
  step_append_src w hgd s x t ho base e i z size bytes ht hi hz hsize hby hzs hsz v n xs hs hown A m c news hx hsrc h1 h63 hbytes hbase h
theorem rsl_none {w : World} {lo B : Nat} {rows : List (List Int)} (h : RSl w lo B none rows) : rows = [] := by
  rcases h with h | ⟨b, o, e, _⟩
  · exact h
  · cases e
theorem heap_top (w : World) (E I : Obj) : ((w.alloc E).alloc I).drew.heap[w.heap.size + 1]? = some I := by
  have h := heap_alloc_new (w.alloc E) I
  rw [World.size_alloc] at h
  exact h
theorem keep4 {W w2 : World} {B : Nat} {b1 o1 b2 o2 : Nat} {x1 x2 x3 x4 : Value} (hb : Below B W w2) (h1 : W.cell? ⟨b1, o1, none⟩ = some x1) (h2 : W.cell? ⟨b2, o2, none⟩ = some x2) (h3 : W.cell? ⟨b2, o2 + 1, none⟩ = some x3) (h4 : W.cell? ⟨b2, o2 + 2, none⟩ = some x4)
    (g1 : b1 < B) (g2 : b2 < B) : w2.cell? ⟨b1, o1, none⟩ = some x1 ∧ w2.cell? ⟨b2, o2, none⟩ = some x2 ∧ w2.cell? ⟨b2, o2 + 1, none⟩ = some x3 ∧ w2.cell? ⟨b2, o2 + 2, none⟩ = some x4 :=
  ⟨by rw [hb.cell g1]; exact h1, by rw [hb.cell g2]; exact h2, by rw [hb.cell g2]; exact h3, by rw [hb.cell g2]; exact h4⟩
theorem lp_low8a {wr w8 : World} {E : Obj} (h : (wr.alloc E).drew.grownBy w8 (Value.slice (some ⟨wr.heap.size, 0, none⟩) 0 0).ownBlock) : Below wr.heap.size wr w8 :=
  ((Below.refl _ _).alloc (Nat.le_refl _) E).drew.grown h (by simp) (fun g hg => by simp [Value.ownBlock] at hg; omega)
theorem lp_low8b {wr w8 : World} {E I : Obj} (h : ((wr.alloc E).alloc I).drew.grownBy w8 (Value.slice (some ⟨wr.heap.size, 0, none⟩) 0 0).ownBlock) : Below wr.heap.size wr w8 :=
  (((Below.refl _ _).alloc (Nat.le_refl _) E).alloc (by simp) I).drew.grown h (by simp; omega) (fun g hg => by simp [Value.ownBlock] at hg; omega)
theorem lp_low8c {wr w8 : World} {E I : Obj} (h : ((wr.alloc I).alloc E).drew.grownBy w8 (Value.slice (some ⟨wr.heap.size + 1, 0, none⟩) 0 0).ownBlock) : Below wr.heap.size wr w8 :=
  (((Below.refl _ _).alloc (Nat.le_refl _) I).alloc (by simp) E).drew.grown h (by simp; omega) (fun g hg => by simp [Value.ownBlock] at hg; omega)
theorem lp_i8b {wr w8 : World} {E : Obj} {j : Int} (h : ((wr.alloc E).alloc (.cells #[.int .i64 j] 3)).drew.grownBy w8 (Value.slice (some ⟨wr.heap.size, 0, none⟩) 0 0).ownBlock) : Src w8 1 (some ⟨wr.heap.size + 1, 0, none⟩) 1 [.int .i64 j] := by
  refine ⟨rfl, .inr ⟨_, rfl, World.news_of_block (cs := #[.int .i64 j]) (t := 3) (fr := (0, 0)) ?_⟩⟩
  rw [h.block _ (by simp) (by simp [Value.ownBlock])]
  exact heap_top wr E _
theorem lp_i8c {wr w8 : World} {E : Obj} {j : Int} (h : ((wr.alloc (.cells #[.int .i64 j] 3)).alloc E).drew.grownBy w8 (Value.slice (some ⟨wr.heap.size + 1, 0, none⟩) 0 0).ownBlock) : Src w8 1 (some ⟨wr.heap.size, 0, none⟩) 1 [.int .i64 j] := by
  refine ⟨rfl, .inr ⟨_, rfl, World.news_of_block (cs := #[.int .i64 j]) (t := 3) (fr := (0, 0)) ?_⟩⟩
  rw [h.block _ (by simp; omega) (by simp [Value.ownBlock])]
  exact (Below.heap_alloc (wr.alloc (.cells #[.int .i64 j] 3)) E wr.heap.size (by simp)).trans (heap_alloc_new _ _)

theorem lp_many {wr w9 w12 w13 : World} {base : Nat} {rows : List (List Int)} {kk : Fo} {pre : List Int} {A A13 : Option Addr} {C C13 : Nat} {xs news : List Value} (hown : wr.ownsRow base 23 1 (.slice A rows.length C) rows.length xs)
    (hall : ∀ (i : Nat) (r : List Int), rows[i]? = some r → ∃ a' c' L H, xs[i]? = some (Value.slice a' r.length c') ∧ ISc wr L H a' c' r ∧ base ≤ L ∧ H ≤ wr.heap.size ∧ (∀ g, (Value.slice A rows.length C).ownBlock = some g → g < L ∨ H ≤ g))
    (hown13 : w13.ownsRow base 23 1 (.slice A13 (rows.length + (1 + fsz kk)) C13) (rows.length + (1 + fsz kk)) (xs ++ news)) (hlow12 : Below wr.heap.size wr w12) (_ : Below w9.heap.size w9 w12) (hs9 : wr.heap.size < w9.heap.size) (hbase : base ≤ wr.heap.size)
    (hnews : ∀ (i : Nat) (r : List Int), ((places kk).map (pre ++ ·))[i]? = some r → ∃ a' c', news[i]? = some (Value.slice a' r.length c') ∧ ISc w12 w9.heap.size w12.heap.size a' c' r)
    (hgrow : w12.grownBy w13 (Value.slice A rows.length C).ownBlock) (hat : (Value.slice A13 (rows.length + (1 + fsz kk)) C13).ownBlock = (Value.slice A rows.length C).ownBlock ∨ (Value.slice A13 (rows.length + (1 + fsz kk)) C13).ownBlock = some w12.heap.size) : ROwn w13 base (rows ++ (places kk).map (pre ++ ·)) A13 C13 := by
  have hl : ((places kk).map (pre ++ ·)).length = 1 + fsz kk := by rw [List.length_map, places_len]
  rw [← hl] at hown13 hat
  exact ROwn.many hown hall hown13 hlow12 hbase (fun i r hr => by obtain ⟨a', c', h1, h2⟩ := hnews i r hr; exact ⟨a', c', h1, h2.mono (by omega) (Nat.le_refl _)⟩) hgrow hat

set_option maxRecDepth 100000 in
set_option maxHeartbeats 1000000 in
theorem l1Places_any (N : Nat) : ∀ (s v : Int) (a : Option Addr) (c : Nat) (k : Fo) (hA : Option Addr) (hC hn : Nat) (head : List Int) (w : World), Sl w 0 w.heap.size a k → ISl w 0 w.heap.size hA head → hn = head.length → fsz k ≤ N → N ≤ 1000 → head.length + N ≤ 2000 →
    Calls Tryz.prog 31 #[.agg #[.int .i64 s, .int .i64 v, .slice a (flen k) c], .slice hA hn hC] w (LpPost k head w) := by
  induction N using Nat.strongRecOn with
  | _ N ih =>
    intro s v a c k hA hC hn head w hl hh hnn hN hN2 hN3
    subst hnn
    have hfl := flen_le_sz k
    have IH := Lib.hid ih
    have HHD := Lib.hid hh
    clear ih hh
    obtain ⟨ti, hti, htz, hts, htb⟩ := Tryz.infoI
    obtain ⟨tj, hji, hjz, hjs, hjb⟩ := Tryz.infoIS
    have HTI : Hid (Tryz.prog.info? 3 = some ti ∧ ti.zero = some (.int .i64 0) ∧ ti.size = 1 ∧ ti.bytes = 8) := ⟨hti, htz, hts, htb⟩
    have HTJ : Hid (Tryz.prog.info? 23 = some tj ∧ tj.zero = some (.slice none 0 0) ∧ tj.size = 1 ∧ tj.bytes = 24) := ⟨hji, hjz, hjs, hjb⟩
    clear hti htz hts htb hji hjz hjs hjb
    have HO1 : Hid (((w.alloc (.cells #[.int .i64 s, .int .i64 v, .slice a (flen k) c] 26)).alloc (.cells #[] 3)).ownsRow (w.heap.size + 1) 3 1 (.slice (some ⟨w.heap.size + 1, 0, none⟩) 0 0) 0 []) :=
      own_empty (by have := heap_alloc_new (w.alloc (.cells #[.int .i64 s, .int .i64 v, .slice a (flen k) c] 26)) (.cells #[] 3); simpa using this) (Nat.le_refl _)
    have HSRC : Hid (Src ((w.alloc (.cells #[.int .i64 s, .int .i64 v, .slice a (flen k) c] 26)).alloc (.cells #[] 3)) 1 hA head.length (head.map (Value.int .i64))) :=
      src_of_isl (HHD.out.below (((Below.refl _ _).alloc (Nat.le_refl _) _).alloc (by simp) _)) (fun ha => by have := HHD.out; rw [ha] at this; exact isl_none this)
    go_enter Tryz.func31, Tryz.ntmps31
    go_wp2_with (at_builtin; refine wpList_append_src _ rfl _ _ 23 rfl (w.heap.size + 1) 3 ti _ 1 8 Tryz.underlying23 HTI.out.1 HTI.out.2.1 HTI.out.2.2.1 HTI.out.2.2.2 rfl (by omega) (.slice (some ⟨w.heap.size + 1, 0, none⟩) 0 0) 0 [] rfl HO1.out hA head.length hC (head.map (Value.int .i64)) rfl HSRC.out (by simp [Value.oneCell']) (by unfold maxLen; omega) (by omega) (by simp) ?_; intro A1 C1 w1 hown1 hgrow1 hat1)
    have hown1' : w1.ownsRow (w.heap.size + 1) 3 1 (.slice A1 head.length C1) head.length (head.map (Value.int .i64)) := by simpa using hown1
    have hlow1 : Below (w.heap.size + 1) (w.alloc (.cells #[.int .i64 s, .int .i64 v, .slice a (flen k) c] 26)) w1 := ((Below.refl _ _).alloc (by simp) _).grown hgrow1 (by simp) (fun g hg => by simp [Value.ownBlock] at hg; omega)
    have hs1 := hlow1.size
    simp at hs1
    have HST := Lib.hid (lp_start hown1' hs1)
    have HB1 : Hid (Below (w.heap.size + 1) (w.alloc (.cells #[.int .i64 s, .int .i64 v, .slice a (flen k) c] 26)) (w1.alloc (.cells #[.slice A1 head.length C1] 23))) := hlow1.alloc (by omega) _
    clear hown1 hown1' hlow1 hgrow1 hat1 HO1 HSRC
    go_loopw [5, 6] (fun t i wr => ∃ (j C : Nat) (A : Option Addr) (rows : List (List Int)), j ≤ flen k ∧ i = .int .i64 j ∧ t = .slice A rows.length C ∧ rows.length ≤ 1 + fsz k ∧ Hid ((places k).map (head ++ ·) = rows ++ (fpl (fdrop j k) j).map (head ++ ·)) ∧ ROwn wr (w.heap.size + 1) rows A C ∧ Below (w.heap.size + 1) (w.alloc (.cells #[.int .i64 s, .int .i64 v, .slice a (flen k) c] 26)) wr) (fun _ i _ => flen k - (intOf i).toNat)
    case atStart => exact ⟨0, 1, _, [head], by omega, rfl, rfl, by simp, by simp [Hid, places, fdrop], HST.out, HB1.out⟩
    case round =>
      clear HST HB1
      obtain ⟨j, C, A, rows, hj, rfl, rfl, hrl, hpl, hro, hbl⟩ := hrel
      obtain ⟨hc0, hc1, hc2⟩ : wr.cell? ⟨w.heap.size, 0, none⟩ = some (.int .i64 s) ∧ wr.cell? ⟨w.heap.size, 1, none⟩ = some (.int .i64 v) ∧ wr.cell? ⟨w.heap.size, 2, none⟩ = some (.slice a (flen k) c) := box_cells ⟨wr, hbl⟩
      have hsr := hbl.size
      simp at hsr
      by_cases hlt : j < flen k
      · rcases hl with rfl | ⟨b, o, rfl, hrow⟩
        · simp [flen] at hlt
        obtain ⟨s', v', kk, a', c', ⟨x, y, hd⟩, _, hbB, hk0, hk1, hk2, hsl⟩ := row_at (hrow.below (after_top hbl)) hlt
        have hkN := fsz_kid hd
        have HPL : Hid ((places k).map (head ++ ·) = rows ++ ((places kk).map ((head ++ [(j : Int)]) ++ ·) ++ (fpl (fdrop (j + 1) k) (j + 1)).map (head ++ ·))) := by
          have := hpl.out
          rw [hd] at this
          unfold Hid
          simpa [fpl, places, Function.comp_def] using this
        have HLEN : Hid (rows.length + (1 + fsz kk) ≤ 1 + fsz k) := by
          have h1 := congrArg List.length HPL.out
          rw [List.length_map, places_len, List.length_append, List.length_append, List.length_map, places_len] at h1
          unfold Hid
          omega
        have HHR : Hid (ISl wr 0 w.heap.size hA head) := HHD.out.below (after_top hbl)
        have HS := Lib.hid hsl
        have HRO := Lib.hid hro
        have HBL := Lib.hid hbl
        have g1 : (0 : Int) ≤ (j : Int) := by omega
        have g2 : (j : Int) < (flen k : Int) := by omega
        clear hd hrow hpl hsl hro hbl hc0 hc1
        have HO8a : Hid ((wr.alloc (.cells #[] 3)).drew.ownsRow wr.heap.size 3 1 (.slice (some ⟨wr.heap.size, 0, none⟩) 0 0) 0 []) := own_empty (heap_alloc_new _ _) (Nat.le_refl _)
        have HO8b : Hid (((wr.alloc (.cells #[] 3)).alloc (.cells #[.int .i64 (j : Int)] 3)).drew.ownsRow wr.heap.size 3 1 (.slice (some ⟨wr.heap.size, 0, none⟩) 0 0) 0 []) := own_empty ((Below.heap_alloc (wr.alloc (.cells #[] 3)) (.cells #[.int .i64 (j : Int)] 3) wr.heap.size (by simp)).trans (heap_alloc_new _ _)) (Nat.le_refl _)
        have HO8c : Hid (((wr.alloc (.cells #[.int .i64 (j : Int)] 3)).alloc (.cells #[] 3)).drew.ownsRow wr.heap.size 3 1 (.slice (some ⟨wr.heap.size + 1, 0, none⟩) 0 0) 0 []) := own_empty (heap_top wr _ _) (by omega)
        have HS8a : Hid (Src (wr.alloc (.cells #[] 3)).drew 1 hA head.length (head.map (Value.int .i64))) := src_of_isl (HHR.out.below ((Below.refl _ _).alloc (by omega) _).drew) (fun ha => by have := HHR.out; rw [ha] at this; exact isl_none this)
        have HS8b : Hid (Src ((wr.alloc (.cells #[] 3)).alloc (.cells #[.int .i64 (j : Int)] 3)).drew 1 hA head.length (head.map (Value.int .i64))) := src_of_isl (HHR.out.below (((Below.refl _ _).alloc (by omega) _).alloc (by simp; omega) _).drew) (fun ha => by have := HHR.out; rw [ha] at this; exact isl_none this)
        have HS8c : Hid (Src ((wr.alloc (.cells #[.int .i64 (j : Int)] 3)).alloc (.cells #[] 3)).drew 1 hA head.length (head.map (Value.int .i64))) := src_of_isl (HHR.out.below (((Below.refl _ _).alloc (by omega) _).alloc (by simp; omega) _).drew) (fun ha => by have := HHR.out; rw [ha] at this; exact isl_none this)
        have HONE : Hid (∀ u ∈ head.map (Value.int .i64), u.oneCell' = true) := by unfold Hid; simp [Value.oneCell']
        have HMX : Hid (0 + head.length ≤ maxLen) := by unfold Hid maxLen; omega
        have HBY : Hid ((0 + head.length) * 8 ≤ 140737488355328) := by unfold Hid; omega
        have HONE1 : Hid (∀ u ∈ [Value.int .i64 (j : Int)], u.oneCell' = true) := by unfold Hid; simp [Value.oneCell']
        have HMX1 : Hid (head.length + 1 ≤ maxLen) := by unfold Hid maxLen; omega
        have HBY1 : Hid ((head.length + 1) * 8 ≤ 140737488355328) := by unfold Hid; omega
        have HB8a : Hid (wr.heap.size ≤ (wr.alloc (.cells #[] 3)).drew.heap.size) := by unfold Hid; simp
        have HB8b : Hid (wr.heap.size ≤ ((wr.alloc (.cells #[] 3)).alloc (.cells #[.int .i64 (j : Int)] 3)).drew.heap.size) := by unfold Hid; simp; omega
        have HB8c : Hid (wr.heap.size ≤ ((wr.alloc (.cells #[.int .i64 (j : Int)] 3)).alloc (.cells #[] 3)).drew.heap.size) := by unfold Hid; simp; omega
        obtain ⟨xs, hown, hall⟩ := HRO.out
        have HOWN := Lib.hid hown
        have HALL := Lib.hid hall
        clear hown hall
        go_wp2_with fail
        go_region_held3 (fun w' => w'.cell? ⟨w.heap.size, 2, none⟩ = some (.slice (some ⟨b, o, none⟩) (flen k) c) ∧ w'.cell? ⟨b, o + j * 3, none⟩ = some (.int .i64 s') ∧ w'.cell? ⟨b, o + j * 3 + 1, none⟩ = some (.int .i64 v') ∧ w'.cell? ⟨b, o + j * 3 + 2, none⟩ = some (.slice a' (flen kk) c'))
          (first
            | exact keep4 (B := w.heap.size + 1) hlow13 hc2 hk0 hk1 hk2 (by omega) (by omega)
            | exact keep4 (B := w.heap.size + 1) (hlow12.mono (by omega)) hc2 hk0 hk1 hk2 (by omega) (by omega)
            | exact keep4 (B := w.heap.size + 1) (hlow9.mono (by omega)) hc2 hk0 hk1 hk2 (by omega) (by omega)
            | exact keep4 (B := w.heap.size + 1) ((hlow8.mono (by omega)).alloc (by omega) _) hc2 hk0 hk1 hk2 (by omega) (by omega)
            | exact keep4 (B := w.heap.size + 1) (hlow8.mono (by omega)) hc2 hk0 hk1 hk2 (by omega) (by omega)
            | go_keep)
          (first
            | (refine step_src (by rfl) _ _ 23 (by rfl) wr.heap.size 3 ti _ 1 8 Tryz.underlying23 HTI.out.1 HTI.out.2.1 HTI.out.2.2.1 HTI.out.2.2.2 rfl Nat.one_pos (.slice (some ⟨wr.heap.size, 0, none⟩) 0 0) 0 [] (by rfl) HO8a.out hA head.length hC (head.map (Value.int .i64)) (by rfl) HS8a.out HONE.out HMX.out HBY.out HB8a.out ?_; intro A8 C8 w8 hown8 hgrow8 hat8; have hown8x : w8.ownsRow wr.heap.size 3 1 (.slice A8 head.length C8) head.length (head.map (Value.int .i64)) := (by simpa using hown8); have hlow8 : Below wr.heap.size wr w8 := lp_low8a hgrow8; have hs8 : wr.heap.size < w8.heap.size := (by have := hgrow8.size; simp at this; omega); have hI8 : Hid True := trivial)
            | (refine step_src (by rfl) _ _ 23 (by rfl) wr.heap.size 3 ti _ 1 8 Tryz.underlying23 HTI.out.1 HTI.out.2.1 HTI.out.2.2.1 HTI.out.2.2.2 rfl Nat.one_pos (.slice (some ⟨wr.heap.size, 0, none⟩) 0 0) 0 [] (by rfl) HO8b.out hA head.length hC (head.map (Value.int .i64)) (by rfl) HS8b.out HONE.out HMX.out HBY.out HB8b.out ?_; intro A8 C8 w8 hown8 hgrow8 hat8; have hown8x : w8.ownsRow wr.heap.size 3 1 (.slice A8 head.length C8) head.length (head.map (Value.int .i64)) := (by simpa using hown8); have hlow8 : Below wr.heap.size wr w8 := lp_low8b hgrow8; have hs8 : wr.heap.size < w8.heap.size := (by have := hgrow8.size; simp at this; omega); have hI8 : Hid (Src w8 1 (some ⟨wr.heap.size + 1, 0, none⟩) 1 [.int .i64 (j : Int)]) := lp_i8b hgrow8)
            | (refine step_src (by rfl) _ _ 23 (by rfl) wr.heap.size 3 ti _ 1 8 Tryz.underlying23 HTI.out.1 HTI.out.2.1 HTI.out.2.2.1 HTI.out.2.2.2 rfl Nat.one_pos (.slice (some ⟨wr.heap.size + 1, 0, none⟩) 0 0) 0 [] (by rfl) HO8c.out hA head.length hC (head.map (Value.int .i64)) (by rfl) HS8c.out HONE.out HMX.out HBY.out HB8c.out ?_; intro A8 C8 w8 hown8 hgrow8 hat8; have hown8x : w8.ownsRow wr.heap.size 3 1 (.slice A8 head.length C8) head.length (head.map (Value.int .i64)) := (by simpa using hown8); have hlow8 : Below wr.heap.size wr w8 := lp_low8c hgrow8; have hs8 : wr.heap.size < w8.heap.size := (by have := hgrow8.size; simp at this; omega); have hI8 : Hid (Src w8 1 (some ⟨wr.heap.size, 0, none⟩) 1 [.int .i64 (j : Int)]) := lp_i8c hgrow8)
            | (refine step_src (by rfl) _ _ 23 (by rfl) wr.heap.size 3 ti _ 1 8 Tryz.underlying23 HTI.out.1 HTI.out.2.1 HTI.out.2.2.1 HTI.out.2.2.2 rfl (by omega) (.slice A8 head.length C8) head.length (head.map (Value.int .i64)) (by rfl) (own_low ((Below.refl _ _).alloc (Nat.le_refl _) _) hown8x) (some ⟨w8.heap.size, 0, none⟩) 1 1 [.int .i64 (j : Int)] (by rfl) ⟨rfl, .inr ⟨_, rfl, World.news_of_block (heap_alloc_new _ _)⟩⟩ (by simp [Value.oneCell']) (by unfold maxLen; omega) (by omega) (by simp; omega) ?_; intro A9 C9 w9 hown9 hgrow9 hat9; have hlow9 : Below wr.heap.size wr w9 := (hlow8.alloc (by omega) _).grown hgrow9 (by simp; omega) (fun g hg => (hown8x.lt g hg).1); have hs9 : wr.heap.size < w9.heap.size := (by have := hgrow9.size; simp at this; omega))
            | ((go_at_call 31; refine (IH.out (fsz kk) (by omega) s' v' a' c' kk A9 C9 _ (head ++ [(j : Int)]) _ ?_ ?_ ?_ (Nat.le_refl _) (by omega) ?_).mono ?_); exact (HS.out.below (hlow9.mono (by omega))).mono (Nat.le_refl _) (by omega); exact (isl_of_own (n := head.length + 1) (xs := head ++ [(j : Int)]) (by simpa using hown9)).mono (Nat.zero_le _) (Nat.le_refl _); simp; (simp; omega); rintro e w12 ⟨A12, C12, rfl, hb12, hr12⟩; have hlow12 : Below wr.heap.size wr w12 := hlow9.trans (hb12.mono (by omega)); have hs12 := hb12.size; obtain ⟨news, hsrc, hone, hnews⟩ := rsl_news hr12 (fun ha => rsl_none (ha ▸ hr12)))
            | (refine step_src (by rfl) _ _ 71 (by rfl) (w.heap.size + 1) 23 tj _ 1 24 Tryz.underlying71 HTJ.out.1 HTJ.out.2.1 HTJ.out.2.2.1 HTJ.out.2.2.2 rfl (by omega) (.slice A rows.length C) rows.length xs (by rfl) (own_low hlow12 HOWN.out) A12 (1 + fsz kk) C12 news (by rfl) (by simpa [places_len] using hsrc) hone (by unfold maxLen; omega) (by omega) (by omega) ?_; intro A13 C13 w13 hown13 hgrow13 hat13; have hlow13 : Below (w.heap.size + 1) wr w13 := (hlow12.mono (by omega)).grown hgrow13 (by omega) (fun g hg => (HOWN.out.lt g hg).1))
            | (refine step_src (by rfl) _ _ 23 (by rfl) wr.heap.size 3 ti _ 1 8 Tryz.underlying23 HTI.out.1 HTI.out.2.1 HTI.out.2.2.1 HTI.out.2.2.2 rfl Nat.one_pos (.slice A8 head.length C8) head.length (head.map (Value.int .i64)) (by show Value.slice A8 (0 + head.length) C8 = _; rw [Nat.zero_add]) hown8x (some ⟨_, 0, none⟩) 1 1 [.int .i64 (j : Int)] ?_ hI8.out HONE1.out HMX1.out HBY1.out (Nat.le_of_lt hs8) ?_; rfl; intro A9 C9 w9 hown9 hgrow9 hat9; have hlow9 : Below wr.heap.size wr w9 := hlow8.grown hgrow9 (by omega) (fun g hg => (hown8x.lt g hg).1); have hs9 : wr.heap.size < w9.heap.size := (by have := hgrow9.size; omega)))
        all_goals
          go_wp2_with fail
          have hrow13 : ROwn w13 (w.heap.size + 1) (rows ++ (places kk).map ((head ++ [(j : Int)]) ++ ·)) A13 C13 :=
            lp_many HOWN.out HALL.out hown13 hlow12 hb12 hs9 (by omega) hnews hgrow13 hat13
          refine ⟨⟨j + 1, C13, A13, _, by omega, by go_num, by simp [places_len], ?_, by rw [Hid, HPL.out, List.append_assoc], hrow13, HBL.out.trans hlow13⟩, ?_⟩
          · rw [List.length_append, List.length_map, places_len]
            exact HLEN.out
          · simp [intOf]; omega
      · have HE : Hid ((places k).map (head ++ ·) = rows) := by
          have := hpl.out
          rw [fdrop_all (by omega)] at this
          unfold Hid
          simpa [fpl] using this
        have HP : Hid (LpPost k head w (.returned (.slice A rows.length C)) wr) := by
          have hle : rows.length = 1 + fsz k := by rw [← HE.out, List.length_map, places_len]
          refine ⟨A, C, by rw [hle], after_top hbl, ?_⟩
          rw [HE.out]
          exact hro.sl.mono (by omega) (Nat.le_refl _)
        clear hpl hro hbl hc0 hc1
        go_wp2_with fail
        go_ret
        exact HP.out
end Go.Proofs.YtiinmlagcbjloaaGreat

/-! TP: What TermPlaces answers. -/
namespace Go.Proofs.YtiinmlagcbjloaaGreat
open Go.RowKit Go.Deep

theorem isl_nil {w : World} {lo B : Nat} {a : Option Addr} : ISl w lo B a [] := Or.inl rfl

def TpPost (s v : Int) (k : Fo) (w : World) (e : Ending) (w' : World) : Prop :=
  ∃ A C rows, e = .returned (.slice A rows.length C) ∧ rows = (if okW s v k 16 = true then places k else []) ∧ Below w.heap.size w w' ∧ RSl w' w.heap.size w'.heap.size A rows
end Go.Proofs.YtiinmlagcbjloaaGreat

/-! WI: l71Bad. -/
namespace Go.Proofs.YtiinmlagcbjloaaGreat
open Go.RowKit Go.Deep
attribute [local go_sem ↓] Go.wp_at_zero Go.wp_at_succ

theorem l1Count_n (N : Nat) (s v : Int) (a : Option Addr) (c : Nat) (k : Fo) (most : Int) (w : World) (n : Nat) (hn : flen k = n) (hl : Sl w 0 w.heap.size a k) (h1 : -1000 ≤ most) (h2 : most ≤ 1000) (h3 : most ≤ N) :
    Calls Tryz.prog 48 #[.agg #[.int .i64 s, .int .i64 v, .slice a n c], .int .i64 most] w fun e w' => e = .returned (.int .i64 (cntT s v k most)) ∧ Below w.heap.size w w' := by
  subst hn
  exact l1Count_any N s v a c k most w hl h1 h2 h3

/-- What holds at the head of the loop that doubles. -/
def BadLoop (w : World) (br p S j : Nat) (wr : World) : Prop :=
  ∃ s v A C k, BadAt w br p s v A (flen k) C wr ∧ Sl wr (w.heap.size + 2) wr.heap.size A k ∧ fsz k + 2 ≤ (S + 1) * 2 ^ j
theorem bad_size {n S j : Nat} (h : n + 2 ≤ (S + 1) * 2 ^ j) (hj : j ≤ 8) (hS : 1 ≤ S) : 1 + n ≤ 1000 * S := by
  have h2 : 2 ^ j ≤ 2 ^ 8 := Nat.pow_le_pow_right (by omega) hj
  have h3 : (S + 1) * 2 ^ j ≤ (S + 1) * 256 := Nat.mul_le_mul (Nat.le_refl _) h2
  omega

set_option maxRecDepth 100000 in
set_option maxHeartbeats 1000000 in
theorem l71Bad_any (s v : Int) (a : Option Addr) (c : Nat) (k : Fo) (br p S : Nat) (w : World) (hl : Sl w 0 w.heap.size a k) (hr : Rd w br p) (hp : p ≤ 100000000) (hS : 1 + fsz k ≤ S) (hS2 : S ≤ 1000) :
    Calls Tryz.prog 30 #[.pointer (some ⟨br, 0, none⟩), .agg #[.int .i64 s, .int .i64 v, .slice a (flen k) c]] w (DrawnPost br p 2 (1000 * S) w) := by
  have hlt := hr.lt
  have hfl := flen_le_sz k
  have HR := Lib.hid hr
  clear hr
  go_enter Tryz.func30, Tryz.ntmps30
  go_wp2_with fail
  with_reducible refine (l1Copy_any (fsz k) s v a c k _ ?_ (Nat.le_refl _) ?_).mono ?_
  · exact (hl.below (((Below.refl _ _).alloc (Nat.le_refl _) _).alloc (by simp) _)).mono (Nat.le_refl _) (by simp; omega)
  · omega
  rintro e w1 ⟨a1, c1, rfl, hb1, hown1⟩
  have hat := (BadAt.start HR.out s v a (flen k) c).more hlt hb1
  have ht0 := hat.t0
  have ht1 := hat.t1
  have ht2 := hat.t2
  have hf0 := hat.f0
  have hf1 := hat.f1
  have hf2 := hat.f2
  have HAT := Lib.hid (((hat.set0 hlt s).set1 hlt v).set2 hlt (A' := a1) (n' := flen k) (C' := c1))
  have HOWN : Hid (Own w1 (w.heap.size + 2) k (flen k) a1 c1) := hown1.low (Below.refl _ _) (by simp)
  clear hb1 hown1 hat
  go_wp2_with fail
  with_reducible refine (pick_any 6 br p _ HAT.out.rd (by omega) (by omega) (by omega)).mono ?_
  rintro e w2 ⟨x, rfl, hx, hb2⟩
  have ha2 : Adv _ br (p + 1) w2 := hb2
  have HAT2 := Lib.hid (HAT.out.call hlt ha2)
  have HOWN2 := Lib.hid ((((HOWN.out.store (by simp) (.int .i64 s) (q := ⟨w.heap.size, 0, none⟩)).store (by simp) (.int .i64 v) (q := ⟨w.heap.size, 1, none⟩)).store (by simp) (.slice a1 (flen k) c1) (q := ⟨w.heap.size, 2, none⟩)).adv ha2 (by omega))
  clear ht0 ht1 ht2 hf0 hf1 hf2 hb2 ha2 HAT HOWN
  by_cases hx0 : x = 0
  · subst hx0
    go_wp2_with fail
    with_reducible refine (pick_any 8 br (p + 1) _ HAT2.out.rd (by omega) (by omega) (by omega)).mono ?_
    rintro e w3 ⟨y, rfl, hy, hb3⟩
    have ha3 : Adv w2 br (p + 1 + 1) w3 := hb3
    have HAT3 := Lib.hid (HAT2.out.call hlt ha3)
    have HOWN3 := Lib.hid (HOWN2.out.adv ha3 (by omega))
    clear hb3 ha3
    have ht0 := HAT3.out.t0
    have ht1 := HAT3.out.t1
    have ht2 := HAT3.out.t2
    have hf0 := HAT3.out.f0
    have hf1 := HAT3.out.f1
    have hf2 := HAT3.out.f2
    have hr0 := HAT3.out.r0
    have hr1 := HAT3.out.r1
    have hr2 := HAT3.out.r2
    have hg0 := HAT3.out.g0
    have hg1 := HAT3.out.g1
    have hg2 := HAT3.out.g2
    have hy8 : (y : Int) < 8 := by omega
    go_wp2_with fail
    refine bodyPost_ret (v := .agg #[.int .i64 ((y : Int) - 1), .int .i64 v, .slice a1 (flen k) c1]) ?_ rfl ((HAT3.out.set0 hlt _).done (by omega) (by omega) (by omega) (HOWN3.out.store (by simp) _).sl)
    simp [results, Tryz.results30, go_sem, hr0, hr1, hr2]
  have x0 : ((x : Int) == 0) = false := by simpa using hx0
  by_cases hx1 : x = 1
  · subst hx1
    go_wp2_with fail
    with_reducible refine (pick_any 3 br (p + 1) _ (HAT2.out.rd.alloc _) (by omega) (by omega) (by omega)).mono ?_
    rintro e w3 ⟨y, rfl, hy, hb3⟩
    have ha3 : Adv (w2.alloc (.cells #[.int .i64 (-1), .int .i64 12, .int .i64 1] 3)) br (p + 1 + 1) w3 := hb3
    have hsz2 := HAT2.out.size
    have HAT3 := Lib.hid ((HAT2.out.more hlt ((Below.refl _ _).alloc (Nat.le_refl _) _)).call hlt ha3)
    have HOWN3 := Lib.hid ((HOWN2.out.low ((Below.refl _ _).alloc (Nat.le_refl _) _) (Nat.le_refl _)).adv ha3 (by omega))
    have hc0 := ha3.cell (q := ⟨w2.heap.size, 0, none⟩) (v := .int .i64 (-1)) (by simp) (by simp; omega)
    have hc1 := ha3.cell (q := ⟨w2.heap.size, 1, none⟩) (v := .int .i64 12) (by simp) (by simp; omega)
    have hc2 := ha3.cell (q := ⟨w2.heap.size, 2, none⟩) (v := .int .i64 1) (by simp) (by simp; omega)
    clear hb3 ha3
    have ht0 := HAT3.out.t0
    have ht1 := HAT3.out.t1
    have ht2 := HAT3.out.t2
    have hf0 := HAT3.out.f0
    have hf1 := HAT3.out.f1
    have hf2 := HAT3.out.f2
    have hr0 := HAT3.out.r0
    have hr1 := HAT3.out.r1
    have hr2 := HAT3.out.r2
    have hg0 := HAT3.out.g0
    have hg1 := HAT3.out.g1
    have hg2 := HAT3.out.g2
    have hy3 : y = 0 ∨ y = 1 ∨ y = 2 := by omega
    rcases hy3 with rfl | rfl | rfl
    · go_wp2_with fail
      refine bodyPost_ret (v := .agg #[.int .i64 s, .int .i64 (-1), .slice a1 (flen k) c1]) ?_ rfl ((HAT3.out.set1 hlt _).done (by omega) (by omega) (by omega) (HOWN3.out.store (by simp) _).sl)
      simp [results, Tryz.results30, go_sem, hr0, hr1, hr2]
    · go_wp2_with fail
      refine bodyPost_ret (v := .agg #[.int .i64 s, .int .i64 12, .slice a1 (flen k) c1]) ?_ rfl ((HAT3.out.set1 hlt _).done (by omega) (by omega) (by omega) (HOWN3.out.store (by simp) _).sl)
      simp [results, Tryz.results30, go_sem, hr0, hr1, hr2]
    · go_wp2_with fail
      refine bodyPost_ret (v := .agg #[.int .i64 s, .int .i64 1, .slice a1 (flen k) c1]) ?_ rfl ((HAT3.out.set1 hlt _).done (by omega) (by omega) (by omega) (HOWN3.out.store (by simp) _).sl)
      simp [results, Tryz.results30, go_sem, hr0, hr1, hr2]
  have x1 : ((x : Int) == 1) = false := by simp; omega
  by_cases hx2 : x = 2
  · subst hx2
    have ht2 := HAT2.out.t2
    have hf2 := HAT2.out.f2
    have hsz2 := HAT2.out.size
    have hu0 : ∀ u : After (w.heap.size + 2) w2, u.world.cell? ⟨w.heap.size, 2, none⟩ = some (.slice a1 (flen k) c1) := fun u => u.cell (by simp) ht2
    obtain ⟨ti, hti, htz, hts, htb⟩ := Tryz.infoTerm
    obtain ⟨xs, hown, hall⟩ := HOWN2.out
    have HTI := Lib.hid hti
    have HTZ := Lib.hid htz
    have HTS := Lib.hid hts
    have HTB := Lib.hid htb
    have HOWN := Lib.hid hown
    have HALL := Lib.hid hall
    have HLT : Hid (∀ g, (Value.slice a1 (flen k) c1).ownBlock = some g → w.heap.size + 2 ≤ g) := fun g hg => (hown.lt g hg).1
    clear hti htz hts htb hown hall
    go_wp2_with fail
    refine wp_region_mix (fun w' => ∃ u : After (w.heap.size + 2) w2, w' = u.world) [5, 6] [(0, 0), (1, 0), (2, 1), (3, 1), (4, 1), (5, 2), (6, 2)] (by kernel_rfl) (by kernel_rfl) ⟨⟨_, (Below.refl _ _).drew⟩, rfl⟩ ?_
    iterate 2
      refine mix_see rfl (fun K hK => ?_)
      go_simp
      refine hK _ ?_
      clear hK K
    clear hu0
    refine mix_hold rfl (fun K hK => ?_)
    go_simp
    with_reducible refine (l71Of_any 1 none 0 0 _).mono ?_
    rintro e w3 ⟨rfl, hb3'⟩
    have hb3 : Below w2.heap.size w2 w3 := bl_undrew hb3'
    have hs3 := hb3.size
    refine hK _ _ ⟨⟨_, hb3.mono (by omega)⟩, rfl⟩ ?_
    clear hK K hb3'
    refine mix_hold rfl (fun K hK => ?_)
    go_simp
    refine hK _ _ ⟨⟨_, (hb3.mono (by omega)).alloc (by omega) _⟩, rfl⟩ ?_
    clear hK K
    refine mix_hold rfl (fun K hK => ?_)
    refine step_append_lies _ (by rfl) _ _ _ (by rfl) (w.heap.size + 2) 26 ti _ 3 40 Tryz.underlying24 HTI.out HTZ.out HTS.out HTB.out rfl (by omega) (.slice a1 (flen k) c1) (flen k) xs (by rfl) (own_low ((Below.refl _ _).alloc (Nat.le_refl _) _) (own_low hb3 HOWN.out)) ⟨w3.heap.size, 0, none⟩ 1 1 [.int .i64 1, .int .i64 0, .slice none (flen .nil) 0] (by rfl) (by rfl) (World.news_of_block (heap_alloc_new _ _)) (by simp [Value.oneCell']) (by omega) (by unfold maxLen; omega) (by omega) (by simp; omega) (w3.heap.size + 1) (by simp) ?_
    intro g cap w4 hown4 hgrow hatg hg4
    have hlow : Below (w.heap.size + 2) w2 w4 := ((hb3.mono (by omega)).alloc (by omega) _).grown hgrow (by simp; omega) HLT.out
    have hz2 : w4.cell? ⟨w.heap.size, 2, none⟩ = some (.slice a1 (flen k) c1) := by rw [hlow.cell (by simp)]; exact ht2
    have hz3 : w4.frozen? ⟨w.heap.size, 2, none⟩ = false := by rw [hlow.frozen (by simp)]; exact hf2
    have hown5 : Own w4 (w.heap.size + 2) (fsnoc k (1, 0)) (flen k + 1) (some ⟨g, 0, none⟩) cap := by
      refine Own.append (k := fsnoc k (1, 0)) (kk := .nil) ⟨xs, HOWN.out, hown4, fun i hi => ?_⟩ hb3 (.inl rfl) (by omega) (fdrop_snoc_end (1, 0) k) hgrow hatg
      obtain ⟨x, y, s', v', kk, a', c', L, H, e, h0, h1, h2, hs, hL, hH, hg⟩ := HALL.out i hi
      exact ⟨x, y, s', v', kk, a', c', L, H, fdrop_snoc _ i k e, h0, h1, h2, hs, hL, hH, hg⟩
    have hat4 : BadAt w br (p + 1) s v a1 (flen k) c1 w4 := HAT2.out.keep hlt hlow (by have := hgrow.size; simp at this; omega)
    have HOWN5 := Lib.hid hown5
    have HAT4 := Lib.hid (hat4.set2 hlt (A' := some ⟨g, 0, none⟩) (n' := flen k + 1) (C' := cap))
    refine hK _ _ ⟨⟨_, hlow⟩, rfl⟩ ?_
    clear hK K hown4 hgrow hatg hown5
    refine mix_late rfl (fun K hK => ?_)
    go_simp
    refine hK _ _ ?_
    clear hK K
    refine mix_late rfl (fun K hK => ?_)
    go_simp
    refine hK _ _ ?_
    clear hK K
    refine mix_end ?_
    clear hz2 hz3 ht2 hf2
    have ht0 := HAT4.out.t0
    have ht1 := HAT4.out.t1
    have ht2 := HAT4.out.t2
    have hf0 := HAT4.out.f0
    have hf1 := HAT4.out.f1
    have hf2 := HAT4.out.f2
    have hr0 := HAT4.out.r0
    have hr1 := HAT4.out.r1
    have hr2 := HAT4.out.r2
    have hg0 := HAT4.out.g0
    have hg1 := HAT4.out.g1
    have hg2 := HAT4.out.g2
    have hkl := flen_snoc (1, 0) k
    have HKL := Lib.hid hkl
    have hks := fsz_snoc (1, 0) k
    have HKS := Lib.hid hks
    clear hkl hks
    go_wp2_with fail
    refine bodyPost_ret (v := .agg #[.int .i64 s, .int .i64 v, .slice (some ⟨g, 0, none⟩) (flen (fsnoc k (1, 0))) cap]) ?_ rfl (BadAt.done (k := fsnoc k (1, 0)) (by rw [HKL.out]; exact HAT4.out) (by omega) (by omega) (by rw [HKS.out]; omega) (Own.sl (by rw [HKL.out]; exact HOWN5.out.store (by simp) _)))
    rw [HKL.out]
    simp [results, Tryz.results30, go_sem, hr0, hr1, hr2]
  have x2 : ((x : Int) == 2) = false := by simp; omega
  by_cases hx3 : x = 3
  · subst hx3
    have HST : Hid (BadLoop w br (p + 1) S 0 w2) := ⟨s, v, a1, c1, k, HAT2.out, HOWN2.out.sl, by omega⟩
    clear HAT2 HOWN2
    go_wp2_with fail
    go_loopw [5] (fun i wr => ∃ j : Nat, j ≤ 8 ∧ i = .int .i64 j ∧ BadLoop w br (p + 1) S j wr) (fun i _ => 8 - (intOf i).toNat)
    case atStart => exact ⟨0, by omega, rfl, HST.out⟩
    case round =>
      clear HST
      obtain ⟨j, hj, rfl, s1, v1, A1, C1, k1, hat, hsl, hbd⟩ := hrel
      have ht0 := hat.t0
      have ht1 := hat.t1
      have ht2 := hat.t2
      have hf0 := hat.f0
      have hf1 := hat.f1
      have hf2 := hat.f2
      have hr0 := hat.r0
      have hr1 := hat.r1
      have hr2 := hat.r2
      have hg0 := hat.g0
      have hg1 := hat.g1
      have hg2 := hat.g2
      have hsz1 := hat.size
      by_cases hlt8 : j < 8
      · have HAT1 := Lib.hid hat
        have HL1 := Lib.hid (kid2 (T := 26) (s := s1) (v := v1) (c := C1) (s' := s1) (v' := v1) (c' := C1) hsl hsl hsz1)
        have HBD := Lib.hid hbd
        clear hat hsl hbd
        go_wp2_with fail
        with_reducible refine (l71Of_any 4 _ 2 2 _).mono ?_
        rintro e w3 ⟨rfl, hb3⟩
        have hat3 := (HAT1.out.more hlt ((Below.refl _ _).alloc (Nat.le_refl _) _)).more hlt hb3
        have hl3 := HL1.out.low hb3
        have hs3 := hat3.size
        have hat4 := ((hat3.set0 hlt 4).set1 hlt 0).set2 hlt (A' := some ⟨wr.heap.size, 0, none⟩) (n' := flen (.node 0 0 (s1, v1) k1 (.node 0 0 (s1, v1) k1 .nil))) (C' := 2)
        have hl4 := ((hl3.store (q := ⟨w.heap.size, 0, none⟩) (by simp) (.int .i64 4)).store (q := ⟨w.heap.size, 1, none⟩) (by simp) (.int .i64 0)).store (q := ⟨w.heap.size, 2, none⟩) (by simp) (.slice (some ⟨wr.heap.size, 0, none⟩) 2 2)
        have hbd4 : fsz (.node 0 0 (s1, v1) k1 (.node 0 0 (s1, v1) k1 .nil)) + 2 ≤ (S + 1) * 2 ^ (j + 1) := by
          have := HBD.out
          rw [Nat.pow_succ, ← Nat.mul_assoc]
          simp only [fsz]
          omega
        clear ht0 ht1 ht2 hf0 hf1 hf2 hr0 hr1 hr2 hg0 hg1 hg2
        have ht0 := hat3.t0
        have ht1 := hat3.t1
        have ht2 := hat3.t2
        have hf0 := hat3.f0
        have hf1 := hat3.f1
        have hf2 := hat3.f2
        have HAT4 := Lib.hid hat4
        have HL4 := Lib.hid hl4
        have HBD4 := Lib.hid hbd4
        clear hat3 hl3 hat4 hl4 hbd4 hb3
        go_wp2_with fail
        with_reducible refine (l1Count_n 60 4 0 (some ⟨wr.heap.size, 0, none⟩) 2 (.node 0 0 (s1, v1) k1 (.node 0 0 (s1, v1) k1 .nil)) 60 _ 2 rfl ?_ ?_ ?_ ?_).mono ?_
        · exact HL4.out.mono (Nat.zero_le _) (by simp)
        · omega
        · omega
        · omega
        rintro e w4 ⟨rfl, hb4⟩
        have hat5 := HAT4.out.more hlt hb4
        have hl5 := (HL4.out.mono (Nat.le_refl _) (show _ ≤ _ by simp)).low hb4
        clear ht0 ht1 ht2 hf0 hf1 hf2
        by_cases hcnt : 60 < cntT 4 0 (.node 0 0 (s1, v1) k1 (.node 0 0 (s1, v1) k1 .nil)) 60
        · have ht0 := hat5.t0
          have ht1 := hat5.t1
          have ht2 := hat5.t2
          have hf0 := hat5.f0
          have hf1 := hat5.f1
          have hf2 := hat5.f2
          have hr0 := hat5.r0
          have hr1 := hat5.r1
          have hr2 := hat5.r2
          have hg0 := hat5.g0
          have hg1 := hat5.g1
          have hg2 := hat5.g2
          have HAT5 := Lib.hid hat5
          have HL5 := Lib.hid hl5
          clear hat5 hl5 hb4
          go_wp2_with fail
          refine bodyPost_ret (v := .agg #[.int .i64 4, .int .i64 0, .slice (some ⟨wr.heap.size, 0, none⟩) 2 2]) ?_ rfl (HAT5.out.done (by omega) (by omega) (bad_size HBD4.out (by omega) (by omega)) HL5.out)
          simp [results, Tryz.results30, go_sem, hr0, hr1, hr2, flen]
        · have HREL : Hid (BadLoop w br (p + 1) S (j + 1) w4) := ⟨4, 0, _, 2, _, hat5, hl5, HBD4.out⟩
          clear hat5 hl5 hb4
          go_wp2_with fail
          go_roundw
          case rel => exact ⟨j + 1, by omega, by go_num, HREL.out⟩
          case measure => simp [intOf]; omega
      · have HAT1 := Lib.hid hat
        have HL1 := Lib.hid hsl
        have HBD := Lib.hid hbd
        clear hat hsl hbd
        go_wp2_with fail
        refine bodyPost_ret (v := .agg #[.int .i64 s1, .int .i64 v1, .slice A1 (flen k1) C1]) ?_ rfl (HAT1.out.done (by omega) (by omega) (bad_size HBD.out (by omega) (by omega)) HL1.out)
        simp [results, Tryz.results30, go_sem, hr0, hr1, hr2]
  have x3 : ((x : Int) == 3) = false := by simp; omega
  have ht0 := HAT2.out.t0
  have ht1 := HAT2.out.t1
  have ht2 := HAT2.out.t2
  have hf0 := HAT2.out.f0
  have hf1 := HAT2.out.f1
  have hf2 := HAT2.out.f2
  have hr0 := HAT2.out.r0
  have hr1 := HAT2.out.r1
  have hr2 := HAT2.out.r2
  have hg0 := HAT2.out.g0
  have hg1 := HAT2.out.g1
  have hg2 := HAT2.out.g2
  cases hk : k with
  | nil =>
    subst hk
    go_wp2_with fail
    refine bodyPost_ret (v := .agg #[.int .i64 s, .int .i64 v, .slice a1 (flen .nil) c1]) ?_ rfl (HAT2.out.done (by omega) (by omega) (by omega) HOWN2.out.sl)
    simp [results, Tryz.results30, go_sem, hr0, hr1, hr2]
  | node x' y' pk kk r =>
    subst hk
    have hpos : 0 < flen (.node x' y' pk kk r) := by simp [flen]
    obtain ⟨g, rfl, hgb, hgl, ⟨u0, hu0⟩, ⟨u1, hu1⟩, ⟨u2, hu2⟩, hz0, hz1, hz2⟩ := own_first HOWN2.out hpos
    have hne : g ≠ w.heap.size := by omega
    have hne1 : g ≠ w.heap.size + 1 := by omega
    have HSL := Lib.hid (own_put0 HOWN2.out 3 0)
    have HATF := Lib.hid (((HAT2.out.far hlt (q := ⟨g, 0, none⟩) hgb (.int .i64 3)).far hlt (q := ⟨g, 1, none⟩) hgb (.int .i64 0)).far hlt (q := ⟨g, 2, none⟩) hgb (.slice none 0 0))
    have hn : flen (.node x' y' pk kk r) = flen r + 1 := rfl
    have HN := Lib.hid hn
    clear hn
    have hS1 : 1 + fsz (BT.node 0 0 ((3 : Int), (0 : Int)) BT.nil r) ≤ 1000 * S := by
      have h3 : fsz (BT.node 0 0 ((3 : Int), (0 : Int)) BT.nil r) = fsz r + 1 := by simp [fsz]
      have h4 : fsz r + 1 ≤ fsz (.node x' y' pk kk r) := by simp only [fsz]; omega
      omega
    have hq0 := HATF.out.r0
    have hq1 := HATF.out.r1
    have hq2 := HATF.out.r2
    go_wp2_with fail
    refine bodyPost_ret (v := .agg #[.int .i64 s, .int .i64 v, .slice (some ⟨g, 0, none⟩) (flen (.node 0 0 (3, 0) .nil r)) c1]) ?_ rfl (BadAt.done (k := .node 0 0 (3, 0) .nil r) HATF.out (by omega) (by omega) hS1 (by simpa using HSL.out))
    simp [results, Tryz.results30, go_sem, hq0, hq1, hq2, flen]
end Go.Proofs.YtiinmlagcbjloaaGreat
