/- Several texts in one: P4, V0, IS, V1, S4. -/
import Derived.Test.YtoafleckcjanaaaKLk7
import Derived.Deep.RegionHeld3
import Derived.Deep.DrawnRows
import Derived.Lib.SlicesCompact
import Derived.Test.YtoafleckcjanaaaKLk9
import Derived.Test.YtoafleckcjanaaaKLk3

/-! P4: l1Places: the positions of a term, each behind some. -/
namespace Go.Proofs.Ytoafleckcjanaaa
open Go.RowKit Go.Deep
attribute [local go_sem ↓] Go.wp_at_zero Go.wp_at_succ

def LpPost (k : Fo) (head : List Int) (w : World) (e : Ending) (w' : World) : Prop :=
  ∃ A C, e = .returned (.slice A (1 + fsz k) C) ∧ Below w.heap.size w w' ∧ RSl w' w.heap.size w'.heap.size A ((places k).map (head ++ ·))

theorem own_empty {W : World} {base g : Nat} (h : W.heap[g]? = some (.cells #[] 3 (0, 0))) (hb : base ≤ g) : W.ownsRow base 3 1 (.slice (some ⟨g, 0, none⟩) 0 0) 0 [] :=
  ⟨rfl, .inr ⟨g, 0, #[], rfl, hb, h, Nat.le_refl _, Nat.zero_le _, rfl, rfl⟩⟩

/-- The cells of a row of rows, as a list. -/
theorem rsl_news {w : World} {lo B : Nat} {a : Option Addr} {rows : List (List Int)} (h : RSl w lo B a rows) (hn : a = none → rows = []) :
    ∃ news : List Value, Src w 1 a rows.length news ∧ (∀ u ∈ news, u.oneCell' = true) ∧ ∀ (i : Nat) (r : List Int), rows[i]? = some r → ∃ a' c', news[i]? = some (Value.slice a' r.length c') ∧ ISc w lo B a' c' r := by
  rcases h with rfl | ⟨b, o, rfl, h1, h2, h3⟩
  · refine ⟨[], ⟨rfl, ?_⟩, by simp, by simp⟩
    cases a with
    | none => exact .inl ⟨rfl, rfl⟩
    | some ad => exact .inr ⟨ad, rfl, by simp⟩
  · refine ⟨(List.range rows.length).map fun i => (w.cell? ⟨b, o + i, none⟩).getD undef, ⟨by simp, .inr ⟨_, rfl, fun j u hu => ?_⟩⟩, fun u hu => ?_, fun i r hr => ?_⟩
    · rw [show (⟨b, o, none⟩ : Addr).add j = ⟨b, o + j, none⟩ from by unfold Addr.add; split <;> simp_all]
      rw [List.getElem?_map, Option.map_eq_some_iff] at hu
      obtain ⟨j', hj, rfl⟩ := hu
      have hj' := List.getElem?_eq_some_iff.1 hj
      obtain ⟨hlt, he⟩ := hj'
      simp at he hlt
      subst he
      obtain ⟨a', c', hc, _⟩ := h3 j rows[j] (List.getElem?_eq_getElem hlt)
      rw [hc]
      rfl
    · simp only [List.mem_map, List.mem_range] at hu
      obtain ⟨j, hj, rfl⟩ := hu
      obtain ⟨a', c', hc, _⟩ := h3 j rows[j] (List.getElem?_eq_getElem hj)
      rw [hc]
      rfl
    · obtain ⟨a', c', hc, hi⟩ := h3 i r hr
      have hlt := (List.getElem?_eq_some_iff.1 hr).1
      refine ⟨a', c', ?_, hi⟩
      rw [List.getElem?_map, List.getElem?_range hlt]
      simp [hc]

/-- Rows are appended, all that they lead to made since. -/
theorem ROwn.many {w w2 w3 : World} {base : Nat} {rows rows2 : List (List Int)} {A A' : Option Addr} {C C' : Nat} {xs news : List Value} (hown : w.ownsRow base 26 1 (.slice A rows.length C) rows.length xs)
    (hall : ∀ (i : Nat) (r : List Int), rows[i]? = some r → ∃ a' c' L H, xs[i]? = some (Value.slice a' r.length c') ∧ ISc w L H a' c' r ∧ base ≤ L ∧ H ≤ w.heap.size ∧ (∀ g, (Value.slice A rows.length C).ownBlock = some g → g < L ∨ H ≤ g))
    (hown3 : w3.ownsRow base 26 1 (.slice A' (rows.length + rows2.length) C') (rows.length + rows2.length) (xs ++ news)) (hb2 : Below w.heap.size w w2) (hbase : base ≤ w.heap.size)
    (hnews : ∀ (i : Nat) (r : List Int), rows2[i]? = some r → ∃ a' c', news[i]? = some (Value.slice a' r.length c') ∧ ISc w2 w.heap.size w2.heap.size a' c' r)
    (hgrow : w2.grownBy w3 (Value.slice A rows.length C).ownBlock) (hat : (Value.slice A' (rows.length + rows2.length) C').ownBlock = (Value.slice A rows.length C).ownBlock ∨ (Value.slice A' (rows.length + rows2.length) C').ownBlock = some w2.heap.size) : ROwn w3 base (rows ++ rows2) A' C' := by
  have hs2 := hb2.size
  have hs3 := hgrow.size
  have hxl : xs.length = rows.length := by have := hown.1; omega
  have hl : (rows ++ rows2).length = rows.length + rows2.length := by simp
  rw [ROwn, hl]
  refine ⟨_, hown3, fun i r' hr => ?_⟩
  have hcond : ∀ {L H : Nat}, (∀ g, (Value.slice A rows.length C).ownBlock = some g → g < L ∨ H ≤ g) → H ≤ w2.heap.size → ∀ g', (Value.slice A' (rows.length + rows2.length) C').ownBlock = some g' → g' < L ∨ H ≤ g' := fun hg hH g' hg' => by
    rcases hat with h1 | h1
    · exact hg g' (by rw [← h1]; exact hg')
    · rw [h1] at hg'; simp at hg'; omega
  by_cases hi : i < rows.length
  · rw [List.getElem?_append_left hi] at hr
    obtain ⟨a', c', L, H, hx, hsl, hL, hH, hg⟩ := hall i r' hr
    refine ⟨a', c', L, H, by rw [List.getElem?_append_left (by omega)]; exact hx, hsl.same (fun b h1 h2 => ?_), hL, by omega, hcond hg (by omega)⟩
    rw [hgrow.block b (by omega) (fun e => by have := hg b e.symm; omega), hb2.block b (by omega)]
  · rw [List.getElem?_append_right (by omega)] at hr
    obtain ⟨a', c', hx, hsl⟩ := hnews _ _ hr
    refine ⟨a', c', w.heap.size, w2.heap.size, by rw [List.getElem?_append_right (by omega), hxl]; exact hx, hsl.same (fun b h1 h2 => ?_), hbase, by omega, hcond (fun g hg => .inl (hown.lt _ hg).2) (Nat.le_refl _)⟩
    rw [hgrow.block b (by omega) (fun e => by have := (hown.lt b e.symm).2; omega)]

/-- The first row: the head's own copy. -/
theorem lp_start {w1 : World} {base : Nat} {A1 : Option Addr} {C1 : Nat} {head : List Int} (hown : w1.ownsRow base 3 1 (.slice A1 head.length C1) head.length (head.map (Value.int .i64))) (hb : base ≤ w1.heap.size) :
    ROwn (w1.alloc (.cells #[.slice A1 head.length C1] 26)) base [head] (some ⟨w1.heap.size, 0, none⟩) 1 := by
  refine ⟨[.slice A1 head.length C1], ⟨rfl, .inr ⟨w1.heap.size, 1, #[.slice A1 head.length C1], rfl, hb, heap_alloc_new _ _, Nat.le_refl _, by decide, rfl, rfl⟩⟩, fun i r hr => ?_⟩
  have hi : i = 0 := by
    have := (List.getElem?_eq_some_iff.1 hr).1
    simp at this
    exact this
  subst hi
  simp at hr
  subst hr
  exact ⟨A1, C1, base, w1.heap.size, rfl, (isc_of_own hown).same (fun b _ h2 => Below.heap_alloc _ _ _ h2), Nat.le_refl _, by simp, fun g hg => .inr (by simp [Value.ownBlock] at hg; omega)⟩

/-- step_append_src, the world read off the goal. -/
theorem step_src {P : Program} {w : World} {ops : Array Oper} {o : Oper} {a : Act} {K : Act → World → Prop} {Q : Exit → Act → World → Prop} {E : Prop} (hgd : o.guard = none) (s x : Operand) (t : TypeId) (ho : o.op = .call { callee := .builtin .append, args := #[s, x], argTypes := #[t, t] })
    (base : Nat) (e : TypeId) (i : TypeInfo) (z : Value) (size bytes : Nat) (ht : P.underlying t = some (.slice e)) (hi : P.info? e = some i) (hz : i.zero = some z)
    (hsize : i.size = size) (hby : i.bytes = bytes) (hzs : z.cells.size = size) (hsz : 0 < size)
    (v : Value) (n : Nat) (xs : List Value) (hs : a.eval s = v) (hown : w.ownsRow base e size v n xs) (A : Option Addr) (m c : Nat) (news : List Value) (hx : a.eval x = .slice A m c) (hsrc : Src w size A m news) (h1 : ∀ u ∈ news, u.oneCell' = true)
    (h63 : n + m ≤ maxLen) (hbytes : (n + m) * bytes ≤ 140737488355328) (hbase : base ≤ w.heap.size)
    (h : ∀ A' C' w', w'.ownsRow base e size (.slice A' (n + m) C') (n + m) (xs ++ news) → w.grownBy w' v.ownBlock → ((Value.slice A' (n + m) C').ownBlock = v.ownBlock ∨ (Value.slice A' (n + m) C').ownBlock = some w.heap.size) → K (a.put o.dst (.slice A' (n + m) C')) w') :
    if Region.wanted o (yielded ops a.tmps) = true then Oper.wp P o a w K Q else E :=
  step_append_src w hgd s x t ho base e i z size bytes ht hi hz hsize hby hzs hsz v n xs hs hown A m c news hx hsrc h1 h63 hbytes hbase h
theorem rsl_none {w : World} {lo B : Nat} {rows : List (List Int)} (h : RSl w lo B none rows) : rows = [] := by
  rcases h with h | ⟨b, o, e, _⟩
  · exact h
  · cases e
theorem heap_top (w : World) (E I : Obj) : ((w.alloc E).alloc I).drew.heap[w.heap.size + 1]? = some I := by
  have h := heap_alloc_new (w.alloc E) I
  rw [World.size_alloc] at h
  exact h
theorem keep4 {W w2 : World} {B : Nat} {b1 o1 b2 o2 : Nat} {x1 x2 x3 x4 : Value} (hb : Below B W w2) (h1 : W.cell? ⟨b1, o1, none⟩ = some x1) (h2 : W.cell? ⟨b2, o2, none⟩ = some x2) (h3 : W.cell? ⟨b2, o2 + 1, none⟩ = some x3) (h4 : W.cell? ⟨b2, o2 + 2, none⟩ = some x4)
    (g1 : b1 < B) (g2 : b2 < B) : w2.cell? ⟨b1, o1, none⟩ = some x1 ∧ w2.cell? ⟨b2, o2, none⟩ = some x2 ∧ w2.cell? ⟨b2, o2 + 1, none⟩ = some x3 ∧ w2.cell? ⟨b2, o2 + 2, none⟩ = some x4 :=
  ⟨by rw [hb.cell g1]; exact h1, by rw [hb.cell g2]; exact h2, by rw [hb.cell g2]; exact h3, by rw [hb.cell g2]; exact h4⟩
theorem lp_low8a {wr w8 : World} {E : Obj} (h : (wr.alloc E).drew.grownBy w8 (Value.slice (some ⟨wr.heap.size, 0, none⟩) 0 0).ownBlock) : Below wr.heap.size wr w8 :=
  ((Below.refl _ _).alloc (Nat.le_refl _) E).drew.grown h (by simp) (fun g hg => by simp [Value.ownBlock] at hg; omega)
theorem lp_low8b {wr w8 : World} {E I : Obj} (h : ((wr.alloc E).alloc I).drew.grownBy w8 (Value.slice (some ⟨wr.heap.size, 0, none⟩) 0 0).ownBlock) : Below wr.heap.size wr w8 :=
  (((Below.refl _ _).alloc (Nat.le_refl _) E).alloc (by simp) I).drew.grown h (by simp; omega) (fun g hg => by simp [Value.ownBlock] at hg; omega)
theorem lp_low8c {wr w8 : World} {E I : Obj} (h : ((wr.alloc I).alloc E).drew.grownBy w8 (Value.slice (some ⟨wr.heap.size + 1, 0, none⟩) 0 0).ownBlock) : Below wr.heap.size wr w8 :=
  (((Below.refl _ _).alloc (Nat.le_refl _) I).alloc (by simp) E).drew.grown h (by simp; omega) (fun g hg => by simp [Value.ownBlock] at hg; omega)
theorem lp_i8b {wr w8 : World} {E : Obj} {j : Int} (h : ((wr.alloc E).alloc (.cells #[.int .i64 j] 3)).drew.grownBy w8 (Value.slice (some ⟨wr.heap.size, 0, none⟩) 0 0).ownBlock) : Src w8 1 (some ⟨wr.heap.size + 1, 0, none⟩) 1 [.int .i64 j] := by
  refine ⟨rfl, .inr ⟨_, rfl, World.news_of_block (cs := #[.int .i64 j]) (t := 3) (fr := (0, 0)) ?_⟩⟩
  rw [h.block _ (by simp) (by simp [Value.ownBlock])]
  exact heap_top wr E _
theorem lp_i8c {wr w8 : World} {E : Obj} {j : Int} (h : ((wr.alloc (.cells #[.int .i64 j] 3)).alloc E).drew.grownBy w8 (Value.slice (some ⟨wr.heap.size + 1, 0, none⟩) 0 0).ownBlock) : Src w8 1 (some ⟨wr.heap.size, 0, none⟩) 1 [.int .i64 j] := by
  refine ⟨rfl, .inr ⟨_, rfl, World.news_of_block (cs := #[.int .i64 j]) (t := 3) (fr := (0, 0)) ?_⟩⟩
  rw [h.block _ (by simp; omega) (by simp [Value.ownBlock])]
  exact (Below.heap_alloc (wr.alloc (.cells #[.int .i64 j] 3)) E wr.heap.size (by simp)).trans (heap_alloc_new _ _)

theorem lp_many {wr w9 w12 w13 : World} {base : Nat} {rows : List (List Int)} {kk : Fo} {pre : List Int} {A A13 : Option Addr} {C C13 : Nat} {xs news : List Value} (hown : wr.ownsRow base 26 1 (.slice A rows.length C) rows.length xs)
    (hall : ∀ (i : Nat) (r : List Int), rows[i]? = some r → ∃ a' c' L H, xs[i]? = some (Value.slice a' r.length c') ∧ ISc wr L H a' c' r ∧ base ≤ L ∧ H ≤ wr.heap.size ∧ (∀ g, (Value.slice A rows.length C).ownBlock = some g → g < L ∨ H ≤ g))
    (hown13 : w13.ownsRow base 26 1 (.slice A13 (rows.length + (1 + fsz kk)) C13) (rows.length + (1 + fsz kk)) (xs ++ news)) (hlow12 : Below wr.heap.size wr w12) (_ : Below w9.heap.size w9 w12) (hs9 : wr.heap.size < w9.heap.size) (hbase : base ≤ wr.heap.size)
    (hnews : ∀ (i : Nat) (r : List Int), ((places kk).map (pre ++ ·))[i]? = some r → ∃ a' c', news[i]? = some (Value.slice a' r.length c') ∧ ISc w12 w9.heap.size w12.heap.size a' c' r)
    (hgrow : w12.grownBy w13 (Value.slice A rows.length C).ownBlock) (hat : (Value.slice A13 (rows.length + (1 + fsz kk)) C13).ownBlock = (Value.slice A rows.length C).ownBlock ∨ (Value.slice A13 (rows.length + (1 + fsz kk)) C13).ownBlock = some w12.heap.size) : ROwn w13 base (rows ++ (places kk).map (pre ++ ·)) A13 C13 := by
  have hl : ((places kk).map (pre ++ ·)).length = 1 + fsz kk := by rw [List.length_map, places_len]
  rw [← hl] at hown13 hat
  exact ROwn.many hown hall hown13 hlow12 hbase (fun i r hr => by obtain ⟨a', c', h1, h2⟩ := hnews i r hr; exact ⟨a', c', h1, h2.mono (by omega) (Nat.le_refl _)⟩) hgrow hat

set_option maxRecDepth 100000 in
set_option maxHeartbeats 1000000 in
theorem l1Places_any (N : Nat) : ∀ (s v : Int) (a : Option Addr) (c : Nat) (k : Fo) (hA : Option Addr) (hC hn : Nat) (head : List Int) (w : World), Sl w 0 w.heap.size a k → ISl w 0 w.heap.size hA head → hn = head.length → fsz k ≤ N → N ≤ 1000 → head.length + N ≤ 2000 →
    Calls Try.prog 107 #[.agg #[.int .i64 s, .int .i64 v, .slice a (flen k) c], .slice hA hn hC] w (LpPost k head w) := by
  induction N using Nat.strongRecOn with
  | _ N ih =>
    intro s v a c k hA hC hn head w hl hh hnn hN hN2 hN3
    subst hnn
    have hfl := flen_le_sz k
    have IH := Lib.hid ih
    have HHD := Lib.hid hh
    clear ih hh
    obtain ⟨ti, hti, htz, hts, htb⟩ := Try.infoI
    obtain ⟨tj, hji, hjz, hjs, hjb⟩ := Try.infoIS
    have HTI : Hid (Try.prog.info? 3 = some ti ∧ ti.zero = some (.int .i64 0) ∧ ti.size = 1 ∧ ti.bytes = 8) := ⟨hti, htz, hts, htb⟩
    have HTJ : Hid (Try.prog.info? 26 = some tj ∧ tj.zero = some (.slice none 0 0) ∧ tj.size = 1 ∧ tj.bytes = 24) := ⟨hji, hjz, hjs, hjb⟩
    clear hti htz hts htb hji hjz hjs hjb
    have HO1 : Hid (((w.alloc (.cells #[.int .i64 s, .int .i64 v, .slice a (flen k) c] 35)).alloc (.cells #[] 3)).ownsRow (w.heap.size + 1) 3 1 (.slice (some ⟨w.heap.size + 1, 0, none⟩) 0 0) 0 []) :=
      own_empty (by have := heap_alloc_new (w.alloc (.cells #[.int .i64 s, .int .i64 v, .slice a (flen k) c] 35)) (.cells #[] 3); simpa using this) (Nat.le_refl _)
    have HSRC : Hid (Src ((w.alloc (.cells #[.int .i64 s, .int .i64 v, .slice a (flen k) c] 35)).alloc (.cells #[] 3)) 1 hA head.length (head.map (Value.int .i64))) :=
      src_of_isl (HHD.out.below (((Below.refl _ _).alloc (Nat.le_refl _) _).alloc (by simp) _)) (fun ha => by have := HHD.out; rw [ha] at this; exact isl_none this)
    go_enter Try.func107, Try.ntmps107
    go_wp2_with (at_builtin; refine wpList_append_src _ rfl _ _ 26 rfl (w.heap.size + 1) 3 ti _ 1 8 Try.underlying26 HTI.out.1 HTI.out.2.1 HTI.out.2.2.1 HTI.out.2.2.2 rfl (by omega) (.slice (some ⟨w.heap.size + 1, 0, none⟩) 0 0) 0 [] rfl HO1.out hA head.length hC (head.map (Value.int .i64)) rfl HSRC.out (by simp [Value.oneCell']) (by unfold maxLen; omega) (by omega) (by simp) ?_; intro A1 C1 w1 hown1 hgrow1 hat1)
    have hown1' : w1.ownsRow (w.heap.size + 1) 3 1 (.slice A1 head.length C1) head.length (head.map (Value.int .i64)) := by simpa using hown1
    have hlow1 : Below (w.heap.size + 1) (w.alloc (.cells #[.int .i64 s, .int .i64 v, .slice a (flen k) c] 35)) w1 := ((Below.refl _ _).alloc (by simp) _).grown hgrow1 (by simp) (fun g hg => by simp [Value.ownBlock] at hg; omega)
    have hs1 := hlow1.size
    simp at hs1
    have HST := Lib.hid (lp_start hown1' hs1)
    have HB1 : Hid (Below (w.heap.size + 1) (w.alloc (.cells #[.int .i64 s, .int .i64 v, .slice a (flen k) c] 35)) (w1.alloc (.cells #[.slice A1 head.length C1] 26))) := hlow1.alloc (by omega) _
    clear hown1 hown1' hlow1 hgrow1 hat1 HO1 HSRC
    go_loopw [5, 6] (fun t i wr => ∃ (j C : Nat) (A : Option Addr) (rows : List (List Int)), j ≤ flen k ∧ i = .int .i64 j ∧ t = .slice A rows.length C ∧ rows.length ≤ 1 + fsz k ∧ Hid ((places k).map (head ++ ·) = rows ++ (fpl (fdrop j k) j).map (head ++ ·)) ∧ ROwn wr (w.heap.size + 1) rows A C ∧ Below (w.heap.size + 1) (w.alloc (.cells #[.int .i64 s, .int .i64 v, .slice a (flen k) c] 35)) wr) (fun _ i _ => flen k - (intOf i).toNat)
    case atStart => exact ⟨0, 1, _, [head], by omega, rfl, rfl, by simp, by simp [Hid, places, fdrop], HST.out, HB1.out⟩
    case round =>
      clear HST HB1
      obtain ⟨j, C, A, rows, hj, rfl, rfl, hrl, hpl, hro, hbl⟩ := hrel
      obtain ⟨hc0, hc1, hc2⟩ : wr.cell? ⟨w.heap.size, 0, none⟩ = some (.int .i64 s) ∧ wr.cell? ⟨w.heap.size, 1, none⟩ = some (.int .i64 v) ∧ wr.cell? ⟨w.heap.size, 2, none⟩ = some (.slice a (flen k) c) := box_cells ⟨wr, hbl⟩
      have hsr := hbl.size
      simp at hsr
      by_cases hlt : j < flen k
      · rcases hl with rfl | ⟨b, o, rfl, hrow⟩
        · simp [flen] at hlt
        obtain ⟨s', v', kk, a', c', ⟨x, y, hd⟩, _, hbB, hk0, hk1, hk2, hsl⟩ := row_at (hrow.below (after_top hbl)) hlt
        have hkN := fsz_kid hd
        have HPL : Hid ((places k).map (head ++ ·) = rows ++ ((places kk).map ((head ++ [(j : Int)]) ++ ·) ++ (fpl (fdrop (j + 1) k) (j + 1)).map (head ++ ·))) := by
          have := hpl.out
          rw [hd] at this
          unfold Hid
          simpa [fpl, places, Function.comp_def] using this
        have HLEN : Hid (rows.length + (1 + fsz kk) ≤ 1 + fsz k) := by
          have h1 := congrArg List.length HPL.out
          rw [List.length_map, places_len, List.length_append, List.length_append, List.length_map, places_len] at h1
          unfold Hid
          omega
        have HHR : Hid (ISl wr 0 w.heap.size hA head) := HHD.out.below (after_top hbl)
        have HS := Lib.hid hsl
        have HRO := Lib.hid hro
        have HBL := Lib.hid hbl
        have g1 : (0 : Int) ≤ (j : Int) := by omega
        have g2 : (j : Int) < (flen k : Int) := by omega
        clear hd hrow hpl hsl hro hbl hc0 hc1
        have HO8a : Hid ((wr.alloc (.cells #[] 3)).drew.ownsRow wr.heap.size 3 1 (.slice (some ⟨wr.heap.size, 0, none⟩) 0 0) 0 []) := own_empty (heap_alloc_new _ _) (Nat.le_refl _)
        have HO8b : Hid (((wr.alloc (.cells #[] 3)).alloc (.cells #[.int .i64 (j : Int)] 3)).drew.ownsRow wr.heap.size 3 1 (.slice (some ⟨wr.heap.size, 0, none⟩) 0 0) 0 []) := own_empty ((Below.heap_alloc (wr.alloc (.cells #[] 3)) (.cells #[.int .i64 (j : Int)] 3) wr.heap.size (by simp)).trans (heap_alloc_new _ _)) (Nat.le_refl _)
        have HO8c : Hid (((wr.alloc (.cells #[.int .i64 (j : Int)] 3)).alloc (.cells #[] 3)).drew.ownsRow wr.heap.size 3 1 (.slice (some ⟨wr.heap.size + 1, 0, none⟩) 0 0) 0 []) := own_empty (heap_top wr _ _) (by omega)
        have HS8a : Hid (Src (wr.alloc (.cells #[] 3)).drew 1 hA head.length (head.map (Value.int .i64))) := src_of_isl (HHR.out.below ((Below.refl _ _).alloc (by omega) _).drew) (fun ha => by have := HHR.out; rw [ha] at this; exact isl_none this)
        have HS8b : Hid (Src ((wr.alloc (.cells #[] 3)).alloc (.cells #[.int .i64 (j : Int)] 3)).drew 1 hA head.length (head.map (Value.int .i64))) := src_of_isl (HHR.out.below (((Below.refl _ _).alloc (by omega) _).alloc (by simp; omega) _).drew) (fun ha => by have := HHR.out; rw [ha] at this; exact isl_none this)
        have HS8c : Hid (Src ((wr.alloc (.cells #[.int .i64 (j : Int)] 3)).alloc (.cells #[] 3)).drew 1 hA head.length (head.map (Value.int .i64))) := src_of_isl (HHR.out.below (((Below.refl _ _).alloc (by omega) _).alloc (by simp; omega) _).drew) (fun ha => by have := HHR.out; rw [ha] at this; exact isl_none this)
        have HONE : Hid (∀ u ∈ head.map (Value.int .i64), u.oneCell' = true) := by unfold Hid; simp [Value.oneCell']
        have HMX : Hid (0 + head.length ≤ maxLen) := by unfold Hid maxLen; omega
        have HBY : Hid ((0 + head.length) * 8 ≤ 140737488355328) := by unfold Hid; omega
        have HONE1 : Hid (∀ u ∈ [Value.int .i64 (j : Int)], u.oneCell' = true) := by unfold Hid; simp [Value.oneCell']
        have HMX1 : Hid (head.length + 1 ≤ maxLen) := by unfold Hid maxLen; omega
        have HBY1 : Hid ((head.length + 1) * 8 ≤ 140737488355328) := by unfold Hid; omega
        have HB8a : Hid (wr.heap.size ≤ (wr.alloc (.cells #[] 3)).drew.heap.size) := by unfold Hid; simp
        have HB8b : Hid (wr.heap.size ≤ ((wr.alloc (.cells #[] 3)).alloc (.cells #[.int .i64 (j : Int)] 3)).drew.heap.size) := by unfold Hid; simp; omega
        have HB8c : Hid (wr.heap.size ≤ ((wr.alloc (.cells #[.int .i64 (j : Int)] 3)).alloc (.cells #[] 3)).drew.heap.size) := by unfold Hid; simp; omega
        obtain ⟨xs, hown, hall⟩ := HRO.out
        have HOWN := Lib.hid hown
        have HALL := Lib.hid hall
        clear hown hall
        go_wp2_with fail
        go_region_held3 (fun w' => w'.cell? ⟨w.heap.size, 2, none⟩ = some (.slice (some ⟨b, o, none⟩) (flen k) c) ∧ w'.cell? ⟨b, o + j * 3, none⟩ = some (.int .i64 s') ∧ w'.cell? ⟨b, o + j * 3 + 1, none⟩ = some (.int .i64 v') ∧ w'.cell? ⟨b, o + j * 3 + 2, none⟩ = some (.slice a' (flen kk) c'))
          (first
            | exact keep4 (B := w.heap.size + 1) hlow13 hc2 hk0 hk1 hk2 (by omega) (by omega)
            | exact keep4 (B := w.heap.size + 1) (hlow12.mono (by omega)) hc2 hk0 hk1 hk2 (by omega) (by omega)
            | exact keep4 (B := w.heap.size + 1) (hlow9.mono (by omega)) hc2 hk0 hk1 hk2 (by omega) (by omega)
            | exact keep4 (B := w.heap.size + 1) ((hlow8.mono (by omega)).alloc (by omega) _) hc2 hk0 hk1 hk2 (by omega) (by omega)
            | exact keep4 (B := w.heap.size + 1) (hlow8.mono (by omega)) hc2 hk0 hk1 hk2 (by omega) (by omega)
            | go_keep)
          (first
            | (refine step_src (by rfl) _ _ 26 (by rfl) wr.heap.size 3 ti _ 1 8 Try.underlying26 HTI.out.1 HTI.out.2.1 HTI.out.2.2.1 HTI.out.2.2.2 rfl Nat.one_pos (.slice (some ⟨wr.heap.size, 0, none⟩) 0 0) 0 [] (by rfl) HO8a.out hA head.length hC (head.map (Value.int .i64)) (by rfl) HS8a.out HONE.out HMX.out HBY.out HB8a.out ?_; intro A8 C8 w8 hown8 hgrow8 hat8; have hown8x : w8.ownsRow wr.heap.size 3 1 (.slice A8 head.length C8) head.length (head.map (Value.int .i64)) := (by simpa using hown8); have hlow8 : Below wr.heap.size wr w8 := lp_low8a hgrow8; have hs8 : wr.heap.size < w8.heap.size := (by have := hgrow8.size; simp at this; omega); have hI8 : Hid True := trivial)
            | (refine step_src (by rfl) _ _ 26 (by rfl) wr.heap.size 3 ti _ 1 8 Try.underlying26 HTI.out.1 HTI.out.2.1 HTI.out.2.2.1 HTI.out.2.2.2 rfl Nat.one_pos (.slice (some ⟨wr.heap.size, 0, none⟩) 0 0) 0 [] (by rfl) HO8b.out hA head.length hC (head.map (Value.int .i64)) (by rfl) HS8b.out HONE.out HMX.out HBY.out HB8b.out ?_; intro A8 C8 w8 hown8 hgrow8 hat8; have hown8x : w8.ownsRow wr.heap.size 3 1 (.slice A8 head.length C8) head.length (head.map (Value.int .i64)) := (by simpa using hown8); have hlow8 : Below wr.heap.size wr w8 := lp_low8b hgrow8; have hs8 : wr.heap.size < w8.heap.size := (by have := hgrow8.size; simp at this; omega); have hI8 : Hid (Src w8 1 (some ⟨wr.heap.size + 1, 0, none⟩) 1 [.int .i64 (j : Int)]) := lp_i8b hgrow8)
            | (refine step_src (by rfl) _ _ 26 (by rfl) wr.heap.size 3 ti _ 1 8 Try.underlying26 HTI.out.1 HTI.out.2.1 HTI.out.2.2.1 HTI.out.2.2.2 rfl Nat.one_pos (.slice (some ⟨wr.heap.size + 1, 0, none⟩) 0 0) 0 [] (by rfl) HO8c.out hA head.length hC (head.map (Value.int .i64)) (by rfl) HS8c.out HONE.out HMX.out HBY.out HB8c.out ?_; intro A8 C8 w8 hown8 hgrow8 hat8; have hown8x : w8.ownsRow wr.heap.size 3 1 (.slice A8 head.length C8) head.length (head.map (Value.int .i64)) := (by simpa using hown8); have hlow8 : Below wr.heap.size wr w8 := lp_low8c hgrow8; have hs8 : wr.heap.size < w8.heap.size := (by have := hgrow8.size; simp at this; omega); have hI8 : Hid (Src w8 1 (some ⟨wr.heap.size, 0, none⟩) 1 [.int .i64 (j : Int)]) := lp_i8c hgrow8)
            | (refine step_src (by rfl) _ _ 26 (by rfl) wr.heap.size 3 ti _ 1 8 Try.underlying26 HTI.out.1 HTI.out.2.1 HTI.out.2.2.1 HTI.out.2.2.2 rfl (by omega) (.slice A8 head.length C8) head.length (head.map (Value.int .i64)) (by rfl) (own_low ((Below.refl _ _).alloc (Nat.le_refl _) _) hown8x) (some ⟨w8.heap.size, 0, none⟩) 1 1 [.int .i64 (j : Int)] (by rfl) ⟨rfl, .inr ⟨_, rfl, World.news_of_block (heap_alloc_new _ _)⟩⟩ (by simp [Value.oneCell']) (by unfold maxLen; omega) (by omega) (by simp; omega) ?_; intro A9 C9 w9 hown9 hgrow9 hat9; have hlow9 : Below wr.heap.size wr w9 := (hlow8.alloc (by omega) _).grown hgrow9 (by simp; omega) (fun g hg => (hown8x.lt g hg).1); have hs9 : wr.heap.size < w9.heap.size := (by have := hgrow9.size; simp at this; omega))
            | ((go_at_call 107; refine (IH.out (fsz kk) (by omega) s' v' a' c' kk A9 C9 _ (head ++ [(j : Int)]) _ ?_ ?_ ?_ (Nat.le_refl _) (by omega) ?_).mono ?_); exact (HS.out.below (hlow9.mono (by omega))).mono (Nat.le_refl _) (by omega); exact (isl_of_own (n := head.length + 1) (xs := head ++ [(j : Int)]) (by simpa using hown9)).mono (Nat.zero_le _) (Nat.le_refl _); simp; (simp; omega); rintro e w12 ⟨A12, C12, rfl, hb12, hr12⟩; have hlow12 : Below wr.heap.size wr w12 := hlow9.trans (hb12.mono (by omega)); have hs12 := hb12.size; obtain ⟨news, hsrc, hone, hnews⟩ := rsl_news hr12 (fun ha => rsl_none (ha ▸ hr12)))
            | (refine step_src (by rfl) _ _ 157 (by rfl) (w.heap.size + 1) 26 tj _ 1 24 Try.underlying157 HTJ.out.1 HTJ.out.2.1 HTJ.out.2.2.1 HTJ.out.2.2.2 rfl (by omega) (.slice A rows.length C) rows.length xs (by rfl) (own_low hlow12 HOWN.out) A12 (1 + fsz kk) C12 news (by rfl) (by simpa [places_len] using hsrc) hone (by unfold maxLen; omega) (by omega) (by omega) ?_; intro A13 C13 w13 hown13 hgrow13 hat13; have hlow13 : Below (w.heap.size + 1) wr w13 := (hlow12.mono (by omega)).grown hgrow13 (by omega) (fun g hg => (HOWN.out.lt g hg).1))
            | (refine step_src (by rfl) _ _ 26 (by rfl) wr.heap.size 3 ti _ 1 8 Try.underlying26 HTI.out.1 HTI.out.2.1 HTI.out.2.2.1 HTI.out.2.2.2 rfl Nat.one_pos (.slice A8 head.length C8) head.length (head.map (Value.int .i64)) (by show Value.slice A8 (0 + head.length) C8 = _; rw [Nat.zero_add]) hown8x (some ⟨_, 0, none⟩) 1 1 [.int .i64 (j : Int)] ?_ hI8.out HONE1.out HMX1.out HBY1.out (Nat.le_of_lt hs8) ?_; rfl; intro A9 C9 w9 hown9 hgrow9 hat9; have hlow9 : Below wr.heap.size wr w9 := hlow8.grown hgrow9 (by omega) (fun g hg => (hown8x.lt g hg).1); have hs9 : wr.heap.size < w9.heap.size := (by have := hgrow9.size; omega)))
        all_goals
          go_wp2_with fail
          have hrow13 : ROwn w13 (w.heap.size + 1) (rows ++ (places kk).map ((head ++ [(j : Int)]) ++ ·)) A13 C13 :=
            lp_many HOWN.out HALL.out hown13 hlow12 hb12 hs9 (by omega) hnews hgrow13 hat13
          refine ⟨⟨j + 1, C13, A13, _, by omega, by go_num, by simp [places_len], ?_, by rw [Hid, HPL.out, List.append_assoc], hrow13, HBL.out.trans hlow13⟩, ?_⟩
          · rw [List.length_append, List.length_map, places_len]
            exact HLEN.out
          · simp [intOf]; omega
      · have HE : Hid ((places k).map (head ++ ·) = rows) := by
          have := hpl.out
          rw [fdrop_all (by omega)] at this
          unfold Hid
          simpa [fpl] using this
        have HP : Hid (LpPost k head w (.returned (.slice A rows.length C)) wr) := by
          have hle : rows.length = 1 + fsz k := by rw [← HE.out, List.length_map, places_len]
          refine ⟨A, C, by rw [hle], after_top hbl, ?_⟩
          rw [HE.out]
          exact hro.sl.mono (by omega) (Nat.le_refl _)
        clear hpl hro hbl hc0 hc1
        go_wp2_with fail
        go_ret
        exact HP.out
end Go.Proofs.Ytoafleckcjanaaa

/-! V0: The variables of a term: as they come; sorted, each once. Plain lemmas. -/
namespace Go.Proofs.Ytoafleckcjanaaa
open Go.RowKit Go.Deep

/-- The variables of terms, as they come. -/
def fvl : Fo → List Int
  | .nil => []
  | .node _ _ p k r => (if p.1 = 0 then [p.2] else fvl k) ++ fvl r
/-- The variables of a term, as they come. -/
def fvs (s v : Int) (k : Fo) : List Int := if s = 0 then [v] else fvl k

theorem fvl_sz : ∀ k : Fo, (fvl k).length ≤ fsz k
  | .nil => Nat.le_refl _
  | .node _ _ p k r => by
    have h1 := fvl_sz k
    have h2 := fvl_sz r
    simp only [fvl, fsz, List.length_append]
    split
    · simp; omega
    · omega
/-- What stands ahead of the j-th has no more variables than room. -/
theorem fvl_ge : ∀ (j : Nat) (k : Fo), (fvl k).length + fsz (fdrop j k) ≤ fsz k + (fvl (fdrop j k)).length
  | 0, k => by simp [fdrop]; omega
  | _ + 1, .nil => by simp only [fdrop]; omega
  | n + 1, .node _ _ p kk r => by
    have h := fvl_ge n r
    have h1 := fvl_sz kk
    simp only [fdrop, fvl, fsz, List.length_append]
    split
    · simp; omega
    · omega
theorem fvs_sz (s v : Int) (k : Fo) : (fvs s v k).length ≤ 1 + fsz k := by
  have := fvl_sz k
  unfold fvs
  split
  · simp
  · omega
theorem fvl_in : ∀ (k : Fo), fok k = true → ∀ x ∈ fvl k, 0 ≤ x ∧ x ≤ 11
  | .nil, _, x, hx => by simp [fvl] at hx
  | .node _ _ p k r, h, x, hx => by
    simp only [fok, Bool.and_eq_true] at h
    simp only [fvl, List.mem_append] at hx
    rcases hx with hx | hx
    · split at hx
      · rename_i hp
        simp only [List.mem_singleton] at hx
        subst hx
        exact ((okN_iff _ _ _).1 h.1.1).2.1 hp
      · exact fvl_in k h.1.2 x hx
    · exact fvl_in r h.2 x hx
theorem fvs_in {s v : Int} {k : Fo} (h : okW s v k 16 = true) : ∀ x ∈ fvs s v k, 0 ≤ x ∧ x ≤ 11 := by
  have h' := (okW_iff _ _ _ _).1 h
  intro x hx
  unfold fvs at hx
  split at hx
  · rename_i hs
    simp only [List.mem_singleton] at hx
    subst hx
    exact ((okN_iff _ _ _).1 h'.1).2.1 hs
  · exact fvl_in k h'.2.1 x hx

theorem strict_ext : ∀ (l1 l2 : List Int), l1.Pairwise (· < ·) → l2.Pairwise (· < ·) → (∀ x, x ∈ l1 ↔ x ∈ l2) → l1 = l2
  | [], [], _, _, _ => rfl
  | [], b :: _, _, _, h => by have := (h b).2 (by simp); simp at this
  | a :: _, [], _, _, h => by have := (h a).1 (by simp); simp at this
  | a :: l1, b :: l2, h1, h2, h => by
    rw [List.pairwise_cons] at h1 h2
    have e : a = b := by
      rcases List.mem_cons.1 ((h a).1 (by simp)) with e | e
      · exact e
      · rcases List.mem_cons.1 ((h b).2 (by simp)) with e' | e'
        · exact e'.symm
        · have := h1.1 b e'; have := h2.1 a e; omega
    subst e
    rw [strict_ext l1 l2 h1.2 h2.2 fun x => ?_]
    constructor
    · intro hx
      rcases List.mem_cons.1 ((h x).1 (by simp [hx])) with e | e
      · have := h1.1 x hx; omega
      · exact e
    · intro hx
      rcases List.mem_cons.1 ((h x).2 (by simp [hx])) with e | e
      · have := h2.1 x hx; omega
      · exact e

/-- Of a sorted row each once, in order, and none is lost. -/
theorem compact_sorted (ys : List Int) (hs : ys.Pairwise (· ≤ ·)) : ∀ m, m ≤ ys.length →
    (Lib.compactUpTo ys.toArray m).Pairwise (· < ·) ∧ (∀ x, x ∈ Lib.compactUpTo ys.toArray m ↔ ∃ j, j < m ∧ ys[j]? = some x) := by
  have hget : ∀ j, j < ys.length → ys[j]? = some (ys.toArray[j]!) := fun j hj => by simp [hj]
  have hle : ∀ i j, i ≤ j → j < ys.length → ys.toArray[i]! ≤ ys.toArray[j]! := fun i j hij hj => by
    rcases Nat.lt_or_ge i j with h | h
    · have := List.pairwise_iff_getElem.1 hs i j (by omega) hj h
      simpa [hj, show i < ys.length by omega] using this
    · have : i = j := by omega
      subst this
      exact Int.le_refl _
  intro m
  induction m with
  | zero => intro _; exact ⟨by simp [Lib.compactUpTo], fun x => by simp [Lib.compactUpTo]⟩
  | succ m ih =>
    intro hm
    obtain ⟨h1, h2⟩ := ih (by omega)
    rw [Lib.compactUpTo_succ]
    by_cases hk : Lib.keeps ys.toArray m = true
    · rw [if_pos hk]
      refine ⟨List.pairwise_append.2 ⟨h1, List.pairwise_singleton _ _, fun a ha b hb => ?_⟩, fun x => ?_⟩
      · simp only [List.mem_singleton] at hb
        subst hb
        obtain ⟨j, hj, hja⟩ := (h2 a).1 ha
        rw [hget j (by omega)] at hja
        have hja' := Option.some.inj hja
        have hne : ys.toArray[m]! ≠ ys.toArray[m - 1]! := by
          simp only [Lib.keeps, decide_eq_true_eq] at hk
          rcases hk with hk | hk
          · omega
          · exact hk
        have a1 := hle j (m - 1) (by omega) (by omega)
        have a2 := hle (m - 1) m (by omega) (by omega)
        rw [← hja']
        omega
      · simp only [List.mem_append, List.mem_singleton]
        constructor
        · rintro (hx | rfl)
          · obtain ⟨j, hj, e⟩ := (h2 x).1 hx
            exact ⟨j, by omega, e⟩
          · exact ⟨m, by omega, hget m (by omega)⟩
        · rintro ⟨j, hj, e⟩
          by_cases hjm : j < m
          · exact .inl ((h2 x).2 ⟨j, hjm, e⟩)
          · have : j = m := by omega
            subst this
            rw [hget j (by omega)] at e
            exact .inr (Option.some.inj e).symm
    · rw [if_neg hk, List.append_nil]
      refine ⟨h1, fun x => ⟨fun hx => ?_, fun hx => ?_⟩⟩
      · obtain ⟨j, hj, e⟩ := (h2 x).1 hx
        exact ⟨j, by omega, e⟩
      · obtain ⟨j, hj, e⟩ := hx
        by_cases hjm : j < m
        · exact (h2 x).2 ⟨j, hjm, e⟩
        · have : j = m := by omega
          subst this
          have hk' : ¬(j = 0 ∨ ys.toArray[j]! ≠ ys.toArray[j - 1]!) := by simpa [Lib.keeps] using hk
          have h0 : j ≠ 0 := fun h => hk' (.inl h)
          have heq : ys.toArray[j]! = ys.toArray[j - 1]! := Classical.byContradiction fun h => hk' (.inr h)
          rw [hget j (by omega), heq, ← hget (j - 1) (by omega)] at e
          exact (h2 x).2 ⟨j - 1, by omega, e⟩

/-- The numbers from 0 to 11 that are in a list. -/
def among (xs : List Int) (n : Nat) : List Int := ((List.range n).map (fun (i : Nat) => (i : Int))).filter (fun x => decide (x ∈ xs))
theorem among_mem (xs : List Int) (n : Nat) (x : Int) : x ∈ among xs n ↔ x ∈ xs ∧ 0 ≤ x ∧ x < n := by
  simp only [among, List.mem_filter, List.mem_map, List.mem_range, decide_eq_true_eq]
  constructor
  · rintro ⟨⟨i, hi, rfl⟩, h⟩
    exact ⟨h, by omega, by omega⟩
  · rintro ⟨h, h0, h1⟩
    exact ⟨⟨x.toNat, by omega, by omega⟩, h⟩
theorem among_strict (xs : List Int) (n : Nat) : (among xs n).Pairwise (· < ·) := by
  refine List.Pairwise.filter _ ?_
  rw [List.pairwise_map]
  refine List.Pairwise.imp ?_ List.pairwise_lt_range
  intro a b h
  omega
theorem among_succ (xs : List Int) (n : Nat) : among xs (n + 1) = among xs n ++ (if (n : Int) ∈ xs then [(n : Int)] else []) := by
  simp only [among, List.range_succ, List.map_append, List.filter_append, List.map_cons, List.map_nil]
  congr 1
  by_cases h : (n : Int) ∈ xs <;> simp [h]
theorem compact_among (xs : List Int) (h : ∀ x ∈ xs, 0 ≤ x ∧ x ≤ 11) : Lib.compact (xs.mergeSort fun x y => decide (x ≤ y)) = among xs 12 := by
  have hs : (xs.mergeSort fun x y => decide (x ≤ y)).Pairwise (· ≤ ·) := by
    have := List.pairwise_mergeSort (le := fun (x y : Int) => decide (x ≤ y)) (fun a b c h1 h2 => by simp only [decide_eq_true_eq] at *; omega) (fun a b => by simp only [Bool.or_eq_true, decide_eq_true_eq]; omega) xs
    exact this.imp (fun h => by simpa using h)
  obtain ⟨h1, h2⟩ := compact_sorted _ hs _ (Nat.le_refl _)
  refine strict_ext _ _ h1 (among_strict xs 12) fun x => ?_
  rw [among_mem]
  have h3 : x ∈ Lib.compact (xs.mergeSort fun x y => decide (x ≤ y)) ↔ x ∈ xs := by
    rw [Lib.compact, h2 x, ← List.mem_mergeSort (le := fun (x y : Int) => decide (x ≤ y)) (l := xs)]
    constructor
    · rintro ⟨j, _, e⟩
      exact List.mem_of_getElem? e
    · intro hx
      obtain ⟨j, hj, e⟩ := List.getElem_of_mem hx
      exact ⟨j, hj, by rw [List.getElem?_eq_getElem hj, e]⟩
  rw [h3]
  constructor
  · intro hx
    have := h x hx
    exact ⟨hx, by omega, by omega⟩
  · exact fun hx => hx.1
end Go.Proofs.Ytoafleckcjanaaa

/-! IS: Rows of numbers: what a place of one holds, one of the call's own. -/
namespace Go.Proofs.Ytoafleckcjanaaa
open Go.RowKit Go.Deep

theorem isl_at {w : World} {lo B : Nat} {a : Option Addr} {xs : List Int} {i : Nat} (h : ISl w lo B a xs) (hi : i < xs.length) :
    ∃ b o, a = some ⟨b, o, none⟩ ∧ lo ≤ b ∧ b < B ∧ w.cell? ⟨b, o + i, none⟩ = some (.int .i64 xs[i]) := by
  rcases h with rfl | ⟨b, o, e, h1, h2, h3⟩
  · simp at hi
  · exact ⟨b, o, e, h1, h2, h3 i _ (List.getElem?_eq_getElem hi)⟩

def IOwn (w : World) (base : Nat) (xs : List Int) (A : Option Addr) (C : Nat) : Prop := w.ownsRow base 3 1 (.slice A xs.length C) xs.length (xs.map (Value.int .i64))

theorem IOwn.base {w : World} {base base' : Nat} {xs : List Int} {A : Option Addr} {C : Nat} (h : IOwn w base xs A C) (hb : base' ≤ base) : IOwn w base' xs A C := own_base hb h
theorem IOwn.sl {w : World} {base : Nat} {xs : List Int} {A : Option Addr} {C : Nat} (h : IOwn w base xs A C) : ISl w base w.heap.size A xs := isl_of_own h
theorem IOwn.low {w w2 : World} {base : Nat} {xs : List Int} {A : Option Addr} {C : Nat} (h : IOwn w base xs A C) (hb : Below w.heap.size w w2) : IOwn w2 base xs A C := own_low hb h
end Go.Proofs.Ytoafleckcjanaaa

/-! V1: - addVars: the variables of a node, appended as they come. -/
namespace Go.Proofs.Ytoafleckcjanaaa
open Go.RowKit Go.Deep

theorem assert_varV (v : Int) (w : World) : (Instr.typeAssert (.iface 163 (.int .i64 v)) 107 163 true).run Try.prog w = .ok (.tuple #[.int .i64 v, .bool true]) w := by kernel_rfl
theorem assert_symV (s : Int) (a : Option Addr) (n c : Nat) (w : World) : (Instr.typeAssert (.iface 166 (.agg #[.int .i64 s, .slice a n c])) 107 163 true).run Try.prog w = .ok (.tuple #[.int .i64 0, .bool false]) w := by kernel_rfl

/-- A row of numbers of the call's own. -/
def AvPost (base : Nat) (xs : List Int) (s v : Int) (k : Fo) (w : World) (e : Ending) (w' : World) : Prop :=
  ∃ ys A C, ys = xs ++ fvs s v k ∧ e = .returned (.slice A ys.length C) ∧ IOwn w' base ys A C ∧ Below base w w'

end Go.Proofs.Ytoafleckcjanaaa

/-! S4: fold over nodes with valueOf and symbolOf; apply. -/
namespace Go.Proofs.Ytoafleckcjanaaa
open Go.RowKit Go.Deep Go.Maps

/-- What holds at the head of fold's loop: j kids are done. -/
structure FoAt (w : World) (σ : Int → Option (Int × Int × Fo)) (k : Fo) (g j : Nat) (wr : World) : Prop where
  below : Below w.heap.size w wr
  new : w.heap.size ≤ g
  lt : g < wr.heap.size
  row : ∃ vs, wr.ownsRow w.heap.size 107 1 (.slice (some ⟨g, 0, none⟩) (flen k) (flen k)) (flen k) vs ∧ (∀ i, j ≤ i → i < flen k → vs[i]? = some .nilIface) ∧
    ∀ i, i < j → ∃ x y s v kk nv, fdrop i k = .node x y (s, v) kk (fdrop (i + 1) k) ∧ vs[i]? = some nv ∧ NodeIs wr 0 wr.heap.size nv (tsub σ s v kk).1 (tsub σ s v kk).2.1 (tsub σ s v kk).2.2
theorem FoAt.start {w u : World} {σ : Int → Option (Int × Int × Fo)} {k : Fo} (hb : Below w.heap.size w u) (hk : flen k ≤ 1000) : FoAt w σ k u.heap.size 0 (u.alloc (.cells (madeCells #[.nilIface] (flen k)) 107)) := by
  have hs := hb.size
  refine ⟨hb.alloc hs _, hs, by simp, ⟨_, World.ownsRow_lit (base := w.heap.size) (e := 107) (size := 1) u (madeCells #[.nilIface] (flen k)) (flen k) hs (by unfold maxLen; omega) (by simp [madeCells]), fun i _ hi => ?_, fun i hi => by omega⟩⟩
  rw [toList_madeCells_one, List.getElem?_replicate, if_pos hi]
theorem FoAt.step {w wr w2 : World} {σ : Int → Option (Int × Int × Fo)} {k : Fo} {g j x y : Nat} {s v : Int} {kk : Fo} {nv : Value} (h : FoAt w σ k g j wr) (hj : j < flen k) (hd : fdrop j k = .node x y (s, v) kk (fdrop (j + 1) k)) (hb : Below wr.heap.size wr w2)
    (hn : NodeIs w2 0 w2.heap.size nv (tsub σ s v kk).1 (tsub σ s v kk).2.1 (tsub σ s v kk).2.2) : FoAt w σ k g (j + 1) (w2.setCell ⟨g, j, none⟩ nv) := by
  obtain ⟨vs, hown, hnil, hall⟩ := h.row
  have hs := hb.size
  have hl := h.lt
  have hnew := h.new
  have hws := h.below.size
  have hown2 := own_low hb hown
  have hcj : w2.cell? ⟨g, j, none⟩ = some .nilIface := by rw [hown2.cellAt j (by omega)]; exact hnil j (Nat.le_refl _) hj
  have hkeep : ∀ q z, w2.cell? q = some z → z ≠ .nilIface → (w2.setCell ⟨g, j, none⟩ nv).cell? q = some z := fun q z hq hz => by
    by_cases e : q = ⟨g, j, none⟩
    · subst e; rw [hcj] at hq; exact absurd (Option.some.inj hq).symm hz
    · rw [World.cell?_setCell_other _ _ _ _ (fun h' => e h'.symm)]; exact hq
  have hvl : vs.length = flen k := by have := hown.1; omega
  refine ⟨(h.below.trans (hb.mono hws)).setCell hnew _, hnew, by simp; omega, ⟨vs.set j nv, (hown2.stored j nv).1, fun i h1 h2 => ?_, fun i hi => ?_⟩⟩
  · rw [List.getElem?_set_ne (by omega)]; exact hnil i (by omega) h2
  · by_cases e : i = j
    · subst e
      exact ⟨x, y, s, v, kk, nv, hd, List.getElem?_set_self (by omega), (hn.keepN hkeep).mono (Nat.le_refl _) (by simp)⟩
    · obtain ⟨x', y', s', v', kk', nv', e1, e2, e3⟩ := hall i (by omega)
      exact ⟨x', y', s', v', kk', nv', e1, by rw [List.getElem?_set_ne (fun h' => e h'.symm)]; exact e2, (((e3.below hb).mono (Nat.le_refl _) hs).keepN hkeep).mono (Nat.le_refl _) (by simp)⟩
theorem FoAt.done {w wr : World} {σ : Int → Option (Int × Int × Fo)} {k : Fo} {g : Nat} (h : FoAt w σ k g (flen k) wr) : NSl wr 0 wr.heap.size (some ⟨g, 0, none⟩) (fsub σ k) := by
  obtain ⟨vs, hown, _, hall⟩ := h.row
  refine .inr ⟨g, 0, rfl, nrow_of_allS _ _ _ (Nat.zero_le _) h.lt fun i hi => ?_⟩
  rw [fsub_len] at hi
  obtain ⟨x, y, s, v, kk, nv, hd, hv, hn⟩ := hall i hi
  exact ⟨x, y, _, _, _, nv, fsub_at σ i k hd, by rw [Nat.zero_add, hown.cellAt i (by omega)]; exact hv, hn⟩
end Go.Proofs.Ytoafleckcjanaaa
