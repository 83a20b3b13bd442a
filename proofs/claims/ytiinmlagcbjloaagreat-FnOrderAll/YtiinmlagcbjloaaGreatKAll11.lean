/- Several texts in one: H1. -/
import Derived.Test.YtiinmlagcbjloaaGreatKAll8
import Derived.Test.YtiinmlagcbjloaaGreatKAll10

/-! H1: put: a term, and all that stands in it, laid flat. -/
namespace Go.Proofs.YtiinmlagcbjloaaGreat
open Go.RowKit Go.Deep
attribute [local go_sem ↓] Go.wp_at_zero Go.wp_at_succ

/-- A world in which some cells are known. -/
structure SeenC (l : List (Addr × Value)) where
  world : World
  at_ : ∀ p, p ∈ l → world.cell? p.1 = some p.2

def cellsT (g po : Nat) (x : Value) (p : Nat) (s v : Int) (y : Value) : List (Addr × Value) := [(⟨g, po, none⟩, x), (⟨p, 0, none⟩, .int .i64 s), (⟨p, 1, none⟩, .int .i64 v), (⟨p, 2, none⟩, y)]

/-- What is said of the term at i: in form, and where its kids stand. -/
def KidsAt (ts : List (Int × Int × Fo)) (rows : List (List Int)) (i : Nat) : Prop :=
  ∃ t r, ts[i]? = some t ∧ rows[i]? = some r ∧ okN t.1 t.2.1 (flen t.2.2) = true ∧ fok t.2.2 = true ∧ fsz t.2.2 ≤ 100 ∧ r.length = flen t.2.2 ∧
    ∀ m s v kk x y tl, fdrop m t.2.2 = .node x y (s, v) kk tl → ∃ q : Nat, r[m]? = some (q : Int) ∧ ts[q]? = some (s, v, kk)
theorem KidsAt.mono {ts ts' : List (Int × Int × Fo)} {rows rows' : List (List Int)} {i : Nat} (h : KidsAt ts rows i) (h1 : ∀ (j : Nat) t, ts[j]? = some t → ts'[j]? = some t) (h2 : ∀ r, rows[i]? = some r → rows'[i]? = some r) : KidsAt ts' rows' i := by
  obtain ⟨t, r, a1, a2, a3, a4, a5, a6, a7⟩ := h
  exact ⟨t, r, h1 _ _ a1, h2 _ a2, a3, a4, a5, a6, fun m s v kk x y tl hd => by obtain ⟨q, b1, b2⟩ := a7 m s v kk x y tl hd; exact ⟨q, b1, h1 _ _ b2⟩⟩

def FlPost (D g po : Nat) (O : Nat → Prop) (ts : List (Int × Int × Fo)) (rows : List (List Int)) (s v : Int) (k : Fo) (w : World) (e : Ending) (w' : World) : Prop :=
  ∃ O' F' ts' rows', e = .returned (.int .i64 ts.length) ∧ Flat w' D g po O' F' ts' rows' ∧ Touch g po O w w' ∧ (∀ b, b < w.heap.size → O' b → O b) ∧ ts'.length = ts.length + 1 + fsz k ∧ rows'.length = ts'.length ∧
    (∀ (j : Nat) t, ts[j]? = some t → ts'[j]? = some t) ∧ (∀ (j : Nat) r, rows[j]? = some r → rows'[j]? = some r) ∧ ts'[ts.length]? = some (s, v, k) ∧ ∀ i, ts.length ≤ i → i < ts'.length → KidsAt ts' rows' i

/-- In the midst of put: j kids are laid. -/
structure PutAt (D g po : Nat) (O : Nat → Prop) (ts : List (Int × Int × Fo)) (rows : List (List Int)) (s v : Int) (k : Fo) (a : Option Addr) (c : Nat) (w : World) (j : Nat) (O1 : Nat → Prop) (F1 : FV) (ts1 : List (Int × Int × Fo)) (rows1 : List (List Int)) (r : List Int) (wr : World) : Prop where
  flat : Flat wr D g po O1 F1 ts1 rows1
  touch : Touch g po O w wr
  old : ∀ b, b ≤ w.heap.size → O1 b → O b
  size : w.heap.size < wr.heap.size
  box : wr.heap[w.heap.size]? = some (.cells #[.int .i64 s, .int .i64 v, .slice a (flen k) c] 26 (0, 0))
  len : rows1.length = ts1.length
  many : ts1.length = ts.length + 1 + fsz (ftake j k)
  pts : ∀ (i : Nat) t, ts[i]? = some t → ts1[i]? = some t
  prows : ∀ (i : Nat) q, rows[i]? = some q → rows1[i]? = some q
  top : ts1[ts.length]? = some (s, v, k)
  row : rows1[ts.length]? = some r
  rlen : r.length = j
  kid : ∀ m s' v' kk x y tl, m < j → fdrop m k = .node x y (s', v') kk tl → ∃ q : Nat, r[m]? = some (q : Int) ∧ ts1[q]? = some (s', v', kk)
  rest : ∀ i, ts.length < i → i < ts1.length → KidsAt ts1 rows1 i

theorem ftake_succ : ∀ (j : Nat) (k : Fo) {x y : Nat} {p : Int × Int} {kk tl : Fo}, fdrop j k = .node x y p kk tl → fsz (ftake (j + 1) k) = fsz (ftake j k) + fsz kk + 1
  | 0, .node _ _ _ _ _, _, _, _, _, _, h => by simp only [fdrop, BT.node.injEq] at h; obtain ⟨_, _, _, rfl, _⟩ := h; simp [ftake, fsz]
  | 0, .nil, _, _, _, _, _, h => by simp [fdrop] at h
  | _ + 1, .nil, _, _, _, _, _, h => by simp [fdrop] at h
  | n + 1, .node _ _ _ _ r, _, _, _, _, _, h => by
    have := ftake_succ n r (by simpa [fdrop] using h)
    simp only [ftake, fsz] at this ⊢
    omega
theorem ftake_le : ∀ (j : Nat) (k : Fo), fsz (ftake j k) ≤ fsz k
  | 0, _ => by simp [ftake, fsz]
  | _ + 1, .nil => by simp [ftake]
  | n + 1, .node _ _ _ _ r => by have := ftake_le n r; simp only [ftake, fsz]; omega

theorem list_put3 {xs : List Value} {n : Nat} (h : xs.length = n * 3) (x y z a b c : Value) : (((xs ++ [a, b, c]).set (n * 3) x).set (n * 3 + 1) y).set (n * 3 + 2) z = xs ++ [x, y, z] := by
  rw [← h]
  rw [List.set_append_right _ _ (Nat.le_refl _), List.set_append_right _ _ (by omega), List.set_append_right _ _ (by omega)]
  simp only [Nat.sub_self, Nat.add_sub_cancel_left]
  rfl
/-- A term appended, its cells written, the slice written back: in one order, and in the other. -/
theorem flat_term1 {w1 W w3 : World} {D g po : Nat} {O : Nat → Prop} {F : FV} {ts : List (Int × Int × Fo)} {rows : List (List Int)} {s v : Int} {k : Fo} {a : Option Addr} {c q cap : Nat} (h : Flat w1 D g po O F ts rows) (hb : Below w1.heap.size w1 W)
    (hown3 : w3.ownsRow D 26 3 (.slice (some ⟨q, 0, none⟩) (ts.length + 1) cap) (ts.length + 1) (F.xs ++ [.int .i64 0, .int .i64 0, .slice none 0 0])) (hgrow : W.grownBy w3 (F.a ts.length).ownBlock)
    (hat : (F.a ts.length).ownBlock = some q ∨ q = w1.heap.size + 1) (hsl : Sl w1 0 g a k) (w4 : World)
    (hw4 : w4 = (((w3.setCell ⟨q, ts.length * 3, none⟩ (.int .i64 s)).setCell ⟨q, ts.length * 3 + 1, none⟩ (.int .i64 v)).setCell ⟨q, ts.length * 3 + 2, none⟩ (.slice a (flen k) c)).setCell ⟨g, po, none⟩ (.slice (some ⟨q, 0, none⟩) (ts.length + 1) cap)
      ∨ w4 = (((w3.setCell ⟨g, po, none⟩ (.slice (some ⟨q, 0, none⟩) (ts.length + 1) cap)).setCell ⟨q, ts.length * 3, none⟩ (.int .i64 s)).setCell ⟨q, ts.length * 3 + 1, none⟩ (.int .i64 v)).setCell ⟨q, ts.length * 3 + 2, none⟩ (.slice a (flen k) c)) :
    ∃ O1 F1, Flat w4 D g po O1 F1 (ts ++ [(s, v, k)]) rows ∧ Touch g po O w1 w4 ∧ ∀ b, b < w1.heap.size → O1 b → O b := by
  have hgD := h.gD
  have hbig := h.big
  have hq := hown3.lt q rfl
  have hqg : q ≠ g := by omega
  have hgA : (F.a ts.length).ownBlock ≠ some g := fun e => by have := (h.oA.lt g e).1; omega
  have hgs : g < W.heap.size := by have := hb.size; omega
  have hgb : w3.heap[g]? = w1.heap[g]? := by rw [hgrow.block g hgs (fun e => hgA e.symm), hb.block g (by omega)]
  have hqO : q < w1.heap.size → O q := fun hlt => by
    rcases hat with hat | hat
    · exact h.bA q hat
    · omega
  have hgr : ∀ b, (F.a ts.length).ownBlock = some b → b ≠ g ∧ (b < w1.heap.size → O b) := fun b hb' => ⟨fun e => hgA (by rw [← e]; exact hb'), fun _ => h.bA b hb'⟩
  have hT3 : Touch g po O w1 w3 := ((Touch.refl (O := O)).below hb (by omega)).grown hgrow hgs hgr
  have hx := h.xl
  have hc3 : w3.cell? ⟨g, po, none⟩ = some (F.a ts.length) := (World.cell?_of_block hgb).trans h.cA
  have main : w4.ownsRow D 26 3 (.slice (some ⟨q, 0, none⟩) (ts.length + 1) cap) (ts.length + 1) (F.xs ++ [.int .i64 s, .int .i64 v, .slice a (flen k) c]) ∧ w4.cell? ⟨g, po, none⟩ = some (.slice (some ⟨q, 0, none⟩) (ts.length + 1) cap) ∧ w4.cell? ⟨g, po + 1, none⟩ = w3.cell? ⟨g, po + 1, none⟩ ∧ (∀ o, w4.frozen? ⟨g, o, none⟩ = w3.frozen? ⟨g, o, none⟩) ∧ (∀ b, b ≠ g → b ≠ q → w4.heap[b]? = w3.heap[b]?) ∧ Touch g po O w1 w4 ∧ w4.heap.size = w3.heap.size := by
    rcases hw4 with rfl | rfl
    · have h1 := (hown3.stored (ts.length * 3) (.int .i64 s)).1
      have h2 := (h1.stored (ts.length * 3 + 1) (.int .i64 v)).1
      have h3 := (h2.stored (ts.length * 3 + 2) (.slice a (flen k) c)).1
      rw [list_put3 hx] at h3
      refine ⟨own_block h3 fun b hb' => Below.heap_setCell _ _ _ _ ?_, ?_, ?_, fun o => by simp [World.frozen?_setCell], fun b hb1 hb2 => ?_, (((hT3.set hqg hqO _).set hqg hqO _).set hqg hqO _).setG (.inl rfl) _, by simp⟩
      · have : b = q := by simpa [Value.ownBlock] using hb'.symm
        simp only; omega
      · refine World.cell?_setCell_same _ _ _ (?_ : _ = some (F.a ts.length))
        rw [World.cell?_setCell_other _ _ _ _ (by intro e; exact hqg (congrArg Addr.block e)), World.cell?_setCell_other _ _ _ _ (by intro e; exact hqg (congrArg Addr.block e)), World.cell?_setCell_other _ _ _ _ (by intro e; exact hqg (congrArg Addr.block e))]
        exact hc3
      · rw [World.cell?_setCell_other _ _ _ _ (by intro e; have := congrArg Addr.off e; simp at this), World.cell?_setCell_other _ _ _ _ (by intro e; exact hqg (congrArg Addr.block e)), World.cell?_setCell_other _ _ _ _ (by intro e; exact hqg (congrArg Addr.block e)), World.cell?_setCell_other _ _ _ _ (by intro e; exact hqg (congrArg Addr.block e))]
      · rw [Below.heap_setCell _ _ _ _ (by simpa using hb1), Below.heap_setCell _ _ _ _ (by simpa using hb2), Below.heap_setCell _ _ _ _ (by simpa using hb2), Below.heap_setCell _ _ _ _ (by simpa using hb2)]
    · have h0 : (w3.setCell ⟨g, po, none⟩ (.slice (some ⟨q, 0, none⟩) (ts.length + 1) cap)).ownsRow D 26 3 (.slice (some ⟨q, 0, none⟩) (ts.length + 1) cap) (ts.length + 1) (F.xs ++ [.int .i64 0, .int .i64 0, .slice none 0 0]) := own_block hown3 fun b hb' => Below.heap_setCell _ _ _ _ (by
        have : b = q := by simpa [Value.ownBlock] using hb'.symm
        simp only; omega)
      have h1 := (h0.stored (ts.length * 3) (.int .i64 s)).1
      have h2 := (h1.stored (ts.length * 3 + 1) (.int .i64 v)).1
      have h3 := (h2.stored (ts.length * 3 + 2) (.slice a (flen k) c)).1
      rw [list_put3 hx] at h3
      refine ⟨h3, ?_, ?_, fun o => by simp [World.frozen?_setCell], fun b hb1 hb2 => ?_, (((hT3.setG (.inl rfl) _).set hqg hqO _).set hqg hqO _).set hqg hqO _, by simp⟩
      · rw [World.cell?_setCell_other _ _ _ _ (by intro e; exact hqg (congrArg Addr.block e)), World.cell?_setCell_other _ _ _ _ (by intro e; exact hqg (congrArg Addr.block e)), World.cell?_setCell_other _ _ _ _ (by intro e; exact hqg (congrArg Addr.block e))]
        exact World.cell?_setCell_same _ _ _ hc3
      · rw [World.cell?_setCell_other _ _ _ _ (by intro e; exact hqg (congrArg Addr.block e)), World.cell?_setCell_other _ _ _ _ (by intro e; exact hqg (congrArg Addr.block e)), World.cell?_setCell_other _ _ _ _ (by intro e; exact hqg (congrArg Addr.block e)), World.cell?_setCell_other _ _ _ _ (by intro e; have := congrArg Addr.off e; simp at this)]
      · rw [Below.heap_setCell _ _ _ _ (by simpa using hb2), Below.heap_setCell _ _ _ _ (by simpa using hb2), Below.heap_setCell _ _ _ _ (by simpa using hb2), Below.heap_setCell _ _ _ _ (by simpa using hb1)]
  obtain ⟨m1, m2, m3, m4, m5, m6, m7⟩ := main
  have hs3 := hgrow.size
  have hbs := hb.size
  refine ⟨_, _, h.addTerm (by omega) m1 (hat.imp id (by omega)) (fun b hb1 hb2 hb3 => ?_) m2 (m3.trans (World.cell?_of_block hgb)) (fun o => (m4 o).trans (World.frozen?_of_block hgb)) hsl, m6, fun b hlt hO => ?_⟩
  · rw [m5 b hb2 (fun e => by subst e; rcases hat with hat | hat; exact hb3 hat; omega), hgrow.block b (by omega) (fun e => hb3 e.symm), hb.block b hb1]
  · rcases hO with hO | rfl
    · exact hO
    · exact hqO hlt

/-- An empty row appended, the slice written back. -/
theorem flat_row {w4 w5 : World} {D g po : Nat} {O : Nat → Prop} {F : FV} {ts : List (Int × Int × Fo)} {rows : List (List Int)} {q cap : Nat} (h : Flat w4 D g po O F ts rows)
    (hown : w5.ownsRow D 23 1 (.slice (some ⟨q, 0, none⟩) (rows.length + 1) cap) (rows.length + 1) (F.ks ++ [.slice (some ⟨w4.heap.size, 0, none⟩) 0 0]))
    (hgrow : ((w4.alloc (.cells #[] 3)).alloc (.cells #[.slice (some ⟨w4.heap.size, 0, none⟩) 0 0] 23)).grownBy w5 (F.k rows.length).ownBlock) (hat : (F.k rows.length).ownBlock = some q ∨ q = w4.heap.size + 2) :
    ∃ O1 F1, Flat (w5.setCell ⟨g, po + 1, none⟩ (.slice (some ⟨q, 0, none⟩) (rows.length + 1) cap)) D g po O1 F1 ts (rows ++ [[]]) ∧ Touch g po O w4 (w5.setCell ⟨g, po + 1, none⟩ (.slice (some ⟨q, 0, none⟩) (rows.length + 1) cap)) ∧ ∀ b, b < w4.heap.size → O1 b → O b := by
  have hgD := h.gD
  have hbig := h.big
  have hq := hown.lt q rfl
  have hqg : q ≠ g := by omega
  have hb : Below w4.heap.size w4 ((w4.alloc (.cells #[] 3)).alloc (.cells #[.slice (some ⟨w4.heap.size, 0, none⟩) 0 0] 23)) := ((Below.refl _ _).alloc (Nat.le_refl _) _).alloc (by simp) _
  have hgK : (F.k rows.length).ownBlock ≠ some g := fun e => by have := (h.oK.lt g e).1; omega
  have hgb : w5.heap[g]? = w4.heap[g]? := by rw [hgrow.block g (by simp; omega) (fun e => hgK e.symm), hb.block g (by omega)]
  have hs3 := hgrow.size
  simp at hs3
  have hqO : q < w4.heap.size → O q := fun hlt => by
    rcases hat with hat | hat
    · exact h.bK q hat
    · omega
  have hgr : ∀ b, (F.k rows.length).ownBlock = some b → b ≠ g ∧ (b < w4.heap.size → O b) := fun b hb' => ⟨fun e => hgK (by rw [← e]; exact hb'), fun _ => h.bK b hb'⟩
  have hT : Touch g po O w4 (w5.setCell ⟨g, po + 1, none⟩ (.slice (some ⟨q, 0, none⟩) (rows.length + 1) cap)) := (((Touch.refl (O := O)).below hb (by omega)).grown hgrow (by simp; omega) hgr).setG (.inr rfl) _
  have hp0 : (w5.setCell ⟨g, po + 1, none⟩ (.slice (some ⟨q, 0, none⟩) (rows.length + 1) cap)).heap[w4.heap.size]? = some (.cells #[] 3 (0, 0)) := by
    rw [Below.heap_setCell _ _ _ _ (by simp only; omega), hgrow.block _ (by simp; omega) (fun e => by have := (h.oK.lt _ e.symm).2; omega), Below.heap_alloc _ _ _ (by simp)]
    exact heap_alloc_new _ _
  refine ⟨_, _, h.addRow (p0 := w4.heap.size) (own_block hown fun b hb' => Below.heap_setCell _ _ _ _ ?_) (hat.imp id (by omega)) (Nat.le_refl _) (fun e => ?_) ⟨rfl, .inr ⟨w4.heap.size, 0, #[], rfl, hbig, hp0, Nat.le_refl _, by decide, rfl, rfl⟩⟩ (fun b hb1 hb2 hb3 => ?_) ?_ ?_ (fun o => ?_), hT, fun b hlt hO => ?_⟩
  · have : b = q := by simpa [Value.ownBlock] using hb'.symm
    simp only; omega
  · rcases hat with hat | hat
    · have := (h.oK.lt q hat).2; omega
    · omega
  · rw [Below.heap_setCell _ _ _ _ (by simpa using hb2), hgrow.block b (by simp; omega) (fun e => hb3 e.symm), hb.block b hb1]
  · exact World.cell?_setCell_same _ _ _ ((World.cell?_of_block (a := ⟨g, po + 1, none⟩) hgb).trans h.cK)
  · rw [World.cell?_setCell_other _ _ _ _ (by intro e; have := congrArg Addr.off e; simp at this)]
    exact World.cell?_of_block hgb
  · rw [World.frozen?_setCell]
    exact World.frozen?_of_block hgb
  · rcases hO with hO | rfl | rfl
    · exact hO
    · exact hqO hlt
    · omega

/-- A number appended to a row, the row written back. -/
theorem flat_num {w2 W w3 : World} {D g po : Nat} {O : Nat → Prop} {F : FV} {ts : List (Int × Int × Fo)} {rows : List (List Int)} {i q cap c KB : Nat} {r : List Int} {x : Int} {a : Option Addr} (h : Flat w2 D g po O F ts rows) (hb : Below w2.heap.size w2 W)
    (hr : rows[i]? = some r) (hx : F.ks[i]? = some (.slice a r.length c)) (hK : F.K = some ⟨KB, 0, none⟩)
    (hown : w3.ownsRow D 3 1 (.slice (some ⟨q, 0, none⟩) (r.length + 1) cap) (r.length + 1) (r.map (Value.int .i64) ++ [.int .i64 x]))
    (hgrow : W.grownBy w3 (Value.slice a r.length c).ownBlock) (hat : (Value.slice a r.length c).ownBlock = some q ∨ q = w2.heap.size + 1) :
    ∃ O1 F1, Flat (w3.setCell ⟨KB, i, none⟩ (.slice (some ⟨q, 0, none⟩) (r.length + 1) cap)) D g po O1 F1 ts (rows.set i (r ++ [x])) ∧ Touch g po O w2 (w3.setCell ⟨KB, i, none⟩ (.slice (some ⟨q, 0, none⟩) (r.length + 1) cap)) ∧ ∀ b, b < w2.heap.size → O1 b → O b := by
  have hgD := h.gD
  have hbig := h.big
  have hq := hown.lt q rfl
  obtain ⟨a0, c0, hx0, hio, hap⟩ := h.row i r hr
  rw [hx] at hx0
  simp only [Option.some.injEq, Value.slice.injEq] at hx0
  obtain ⟨rfl, _, rfl⟩ := hx0
  have hKo : (F.k rows.length).ownBlock = some KB := by simp [FV.k, Value.ownBlock, hK]
  have hKl := h.oK.lt KB hKo
  have hKg : KB ≠ g := by omega
  have hKq : KB ≠ q := fun e => by
    rcases hat with hat | hat
    · exact (hap q hat).2.2 (by rw [← e]; exact hKo)
    · omega
  have hKr : some KB ≠ (Value.slice a r.length c).ownBlock := fun e => (hap KB e.symm).2.2 hKo
  have hbs := hb.size
  have hs3 := hgrow.size
  have hqO : q < w2.heap.size → O q := fun hlt => by
    rcases hat with hat | hat
    · exact (hap q hat).1
    · omega
  have hoK3 : w3.ownsRow D 23 1 (F.k rows.length) rows.length F.ks := own_block h.oK fun b hb' => by
    have : b = KB := by rw [hKo] at hb'; exact (Option.some.inj hb').symm
    subst this
    rw [hgrow.block b (by omega) hKr, hb.block b hKl.2]
  have hoK3' := hoK3
  rw [show F.k rows.length = .slice (some ⟨KB, 0, none⟩) rows.length F.CK from by simp [FV.k, hK]] at hoK3'
  have hst := (hoK3'.stored i (.slice (some ⟨q, 0, none⟩) (r.length + 1) cap)).1
  rw [show (Value.slice (some ⟨KB, 0, none⟩) rows.length F.CK) = F.k rows.length from by simp [FV.k, hK]] at hst
  refine ⟨_, _, h.addNum (by simp; omega) hr hx (c := c) (cap := cap) (q := q) (x := x) ?_ (hat.imp id (by omega)) hst (fun b hb1 hb2 hb3 => ?_), ?_, fun b hlt hO => ?_⟩
  · unfold IOwn
    rw [show (r ++ [x]).length = r.length + 1 from by simp, List.map_append]
    exact own_block hown fun b hb' => Below.heap_setCell _ _ _ _ (by
      have : b = q := by simpa [Value.ownBlock] using hb'.symm
      simp only; omega)
  · rw [Below.heap_setCell _ _ _ _ (fun e => hb3 (by rw [hKo]; simpa using e.symm)), hgrow.block b (by omega) (fun e => hb2 e.symm), hb.block b hb1]
  · exact (((Touch.refl (O := O)).below hb (by omega)).grown hgrow (by omega) (fun b hb' => ⟨fun e => by have := (hio.lt b hb').1; omega, fun _ => (hap b hb').1⟩)).set hKg (fun _ => h.bK KB hKo) _
  · rcases hO with hO | rfl
    · exact hO
    · exact hqO hlt

theorem flat_row_cells {w4 w5 : World} {D g po : Nat} {O : Nat → Prop} {F : FV} {ts : List (Int × Int × Fo)} {rows : List (List Int)} (h : Flat w4 D g po O F ts rows)
    (hgrow : ((w4.alloc (.cells #[] 3)).alloc (.cells #[.slice (some ⟨w4.heap.size, 0, none⟩) 0 0] 23)).grownBy w5 (F.k rows.length).ownBlock) :
    w5.cell? ⟨g, po + 1, none⟩ = some (F.k rows.length) ∧ w5.frozen? ⟨g, po + 1, none⟩ = false := by
  have hgD := h.gD
  have hbig := h.big
  have hgb : w5.heap[g]? = w4.heap[g]? := by rw [hgrow.block g (by simp; omega) (fun e => by have := (h.oK.lt g e.symm).1; omega), Below.heap_alloc _ _ _ (by simp; omega), Below.heap_alloc _ _ _ (by omega)]
  exact ⟨(World.cell?_of_block (a := ⟨g, po + 1, none⟩) hgb).trans h.cK, (World.frozen?_of_block (a := ⟨g, po + 1, none⟩) hgb).trans h.zK⟩

theorem PutAt.start {D g po : Nat} {O O1 O2 : Nat → Prop} {F F2 : FV} {ts : List (Int × Int × Fo)} {rows : List (List Int)} {s v : Int} {k : Fo} {a : Option Addr} {c : Nat} {w w1 w4 w6 : World} (hf : Flat w D g po O F ts rows) (hlen : rows.length = ts.length)
    (hb1 : Below w.heap.size w w1) (hbx : w1.heap[w.heap.size]? = some (.cells #[.int .i64 s, .int .i64 v, .slice a (flen k) c] 26 (0, 0))) (hs1 : w1.heap.size = w.heap.size + 1)
    (hT4 : Touch g po O w1 w4) (hO4 : ∀ b, b < w1.heap.size → O1 b → O b) (hf6 : Flat w6 D g po O2 F2 (ts ++ [(s, v, k)]) (rows ++ [[]])) (hT6 : Touch g po O1 w4 w6) (hO6 : ∀ b, b < w4.heap.size → O2 b → O1 b) :
    PutAt D g po O ts rows s v k a c w 0 O2 F2 (ts ++ [(s, v, k)]) (rows ++ [[]]) [] w6 := by
  have h4 := hT4.size
  have h6 := hT6.size
  have hgD := hf.gD
  have hbig := hf.big
  have hnO : ¬ O w.heap.size := fun h => by have := (hf.Ob _ h).2; omega
  have hT16 : Touch g po O w1 w6 := hT4.trans hT6 fun b hb h => hO4 b hb h
  refine ⟨hf6, ((Touch.refl (O := O)).below hb1 (by omega)).trans hT16 fun b _ h => h, fun b hb h => hO4 b (by omega) (hO6 b (by omega) h), by omega, ?_, by simp; omega, by simp [ftake, fsz], fun i t ht => ?_, fun i t ht => ?_, by simp, by rw [← hlen]; simp, rfl, fun m _ _ _ _ _ _ hm => by omega, fun i h1 h2 => by simp at h2; omega⟩
  · rw [hT16.block _ (by omega) (by omega) hnO]; exact hbx
  · rw [List.getElem?_append_left (List.getElem?_eq_some_iff.1 ht).1]; exact ht
  · rw [List.getElem?_append_left (List.getElem?_eq_some_iff.1 ht).1]; exact ht

/-- One more kid is laid, and its number is appended. -/
theorem PutAt.step {D g po : Nat} {O O1 O2 O3 : Nat → Prop} {F1 F3 : FV} {ts ts1 ts2 : List (Int × Int × Fo)} {rows rows1 rows2 : List (List Int)} {s v : Int} {k : Fo} {a : Option Addr} {c : Nat} {w wr w2 w8 : World} {j x y : Nat} {r : List Int} {s' v' : Int} {kk : Fo}
    (h : PutAt D g po O ts rows s v k a c w j O1 F1 ts1 rows1 r wr) (hO : ∀ b, O b → b < w.heap.size) (hg : g < w.heap.size) (hlen : rows.length = ts.length) (hd : fdrop j k = .node x y (s', v') kk (fdrop (j + 1) k)) (hT2 : Touch g po O1 wr w2) (hO2 : ∀ b, b < wr.heap.size → O2 b → O1 b) (hl2 : ts2.length = ts1.length + 1 + fsz kk) (hr2 : rows2.length = ts2.length)
    (hp2 : ∀ (i : Nat) t, ts1[i]? = some t → ts2[i]? = some t) (hq2 : ∀ (i : Nat) t, rows1[i]? = some t → rows2[i]? = some t) (htop : ts2[ts1.length]? = some (s', v', kk)) (hkids : ∀ i, ts1.length ≤ i → i < ts2.length → KidsAt ts2 rows2 i)
    (hf8 : Flat w8 D g po O3 F3 ts2 (rows2.set ts.length (r ++ [(ts1.length : Int)]))) (hT8 : Touch g po O2 w2 w8) (hO8 : ∀ b, b < w2.heap.size → O3 b → O2 b) :
    PutAt D g po O ts rows s v k a c w (j + 1) O3 F3 ts2 (rows2.set ts.length (r ++ [(ts1.length : Int)])) (r ++ [(ts1.length : Int)]) w8 := by
  have hsz := h.size
  have h2 := hT2.size
  have h8 := hT8.size
  have hrow := h.row
  have hn1 := (List.getElem?_eq_some_iff.1 h.row).1
  have hlen1 := h.len
  have hset : ∀ (i : Nat) (t : List Int), i ≠ ts.length → rows2[i]? = some t → (rows2.set ts.length (r ++ [(ts1.length : Int)]))[i]? = some t := fun i t hi ht => by rw [List.getElem?_set_ne (fun e => hi e.symm)]; exact ht
  have hmany := h.many
  have hT28 : Touch g po O1 wr w8 := hT2.trans hT8 fun b hb hh => hO2 b hb hh
  have hnO1 : ¬ O1 w.heap.size := fun hh => by have := hO _ (h.old _ (Nat.le_refl _) hh); omega
  refine ⟨hf8, h.touch.trans hT28 fun b hb hh => h.old b (by omega) hh, fun b hb hh => h.old b hb (hO2 b (by omega) (hO8 b (by omega) hh)), by omega, ?_, by simp; omega, ?_, fun i t ht => hp2 i t (h.pts i t ht), fun i q hq => ?_, hp2 _ _ h.top, ?_, by simp [h.rlen], fun m s1 v1 k1 x1 y1 tl hm hdm => ?_, fun i h1 h2' => ?_⟩
  · rw [hT28.block _ (by omega) (by omega) hnO1]; exact h.box
  · rw [hl2, ftake_succ j k hd, hmany]; omega
  · refine hset i q (fun e => ?_) (hq2 i q (h.prows i q hq))
    subst e
    have := (List.getElem?_eq_some_iff.1 hq).1
    omega
  · rw [List.getElem?_set_self (by omega)]
  · by_cases hmj : m < j
    · obtain ⟨q, hq1, hq3⟩ := h.kid m s1 v1 k1 x1 y1 tl hmj hdm
      exact ⟨q, by rw [List.getElem?_append_left (by rw [h.rlen]; exact hmj)]; exact hq1, hp2 _ _ hq3⟩
    · have : m = j := by omega
      subst this
      rw [hd] at hdm
      simp only [BT.node.injEq, Prod.mk.injEq] at hdm
      obtain ⟨_, _, ⟨rfl, rfl⟩, rfl, _⟩ := hdm
      refine ⟨ts1.length, ?_, htop⟩
      rw [List.getElem?_append_right (by rw [h.rlen]; exact Nat.le_refl _), h.rlen]; simp
  · by_cases hi : i < ts1.length
    · exact (h.rest i h1 hi).mono hp2 fun t ht => hset i t (by omega) (hq2 i t ht)
    · exact (hkids i (by omega) h2').mono (fun _ _ h => h) fun t ht => hset i t (by omega) ht

theorem Touch.low {g po D : Nat} {O : Nat → Prop} {w w' : World} (h : Touch g po O w w') (hg : g < w.heap.size) (hO : ∀ b, O b → D ≤ b) (hD : g < D) : Same 0 g w w' := fun b _ hb => h.block b (by omega) (by omega) fun hh => by have := hO b hh; omega
theorem PutAt.done {D g po : Nat} {O O1 : Nat → Prop} {F1 : FV} {ts ts1 : List (Int × Int × Fo)} {rows rows1 : List (List Int)} {s v : Int} {k : Fo} {a : Option Addr} {c : Nat} {w wr : World} {r : List Int} (h : PutAt D g po O ts rows s v k a c w (flen k) O1 F1 ts1 rows1 r wr) (hok : okN s v (flen k) = true) (hfk : fok k = true) (hN : fsz k ≤ 100) :
    FlPost D g po O ts rows s v k w (.returned (.int .i64 ts.length)) wr := by
  have hmany := h.many
  rw [ftake_all _ _ (Nat.le_refl _)] at hmany
  refine ⟨O1, F1, ts1, rows1, rfl, h.flat, h.touch, fun b hb hh => h.old b (by omega) hh, hmany, h.len, h.pts, h.prows, h.top, fun i h1 h2 => ?_⟩
  by_cases hi : i = ts.length
  · subst hi
    refine ⟨(s, v, k), r, h.top, h.row, hok, hfk, hN, h.rlen, fun m s' v' kk x y tl hd => h.kid m s' v' kk x y tl ?_ hd⟩
    rcases Nat.lt_or_ge m (flen k) with h' | h'
    · exact h'
    · rw [fdrop_all h'] at hd; cases hd
  · exact h.rest i (by omega) h2
def cellsR (g po : Nat) (x : Value) (KB n : Nat) (y : Value) : List (Addr × Value) := [(⟨g, po + 1, none⟩, x), (⟨KB, n, none⟩, y)]
/-- Where row n lies. -/
theorem Flat.rowAt {w : World} {D g po : Nat} {O : Nat → Prop} {F : FV} {ts : List (Int × Int × Fo)} {rows : List (List Int)} {n : Nat} {r : List Int} (h : Flat w D g po O F ts rows) (hr : rows[n]? = some r) :
    ∃ KB a c, F.K = some ⟨KB, 0, none⟩ ∧ F.ks[n]? = some (.slice a r.length c) ∧ w.cell? ⟨KB, n, none⟩ = some (.slice a r.length c) ∧ w.frozen? ⟨KB, n, none⟩ = false ∧ IOwn w D r a c ∧ KB ≠ g ∧ KB < w.heap.size ∧ (Value.slice a r.length c).ownBlock ≠ some KB ∧ (Value.slice a r.length c).ownBlock ≠ some g := by
  have hn := (List.getElem?_eq_some_iff.1 hr).1
  obtain ⟨a, c, hx, hio, hap⟩ := h.row n r hr
  obtain ⟨KB, cap, hv, hb, hlt⟩ := h.oK.form (by omega)
  have hK : F.K = some ⟨KB, 0, none⟩ := by simp only [FV.k, Value.slice.injEq] at hv; exact hv.1
  have hKo : (F.k rows.length).ownBlock = some KB := by simp [FV.k, Value.ownBlock, hK]
  have hoK := h.oK
  rw [show F.k rows.length = .slice (some ⟨KB, 0, none⟩) rows.length F.CK from by simp [FV.k, hK]] at hoK
  have hgD := h.gD
  exact ⟨KB, a, c, hK, hx, by rw [hoK.cellAt n (by omega)]; exact hx, hoK.frozenAt n, hio, by omega, hlt, fun e => (hap KB e).2.2 hKo, fun e => by have := (hio.lt g e).1; omega⟩

set_option maxRecDepth 100000 in
set_option maxHeartbeats 2000000 in
theorem put_any (D g po : Nat) (N : Nat) : ∀ (s v : Int) (a : Option Addr) (c : Nat) (k : Fo) (O : Nat → Prop) (F : FV) (ts : List (Int × Int × Fo)) (rows : List (List Int)) (w : World), Flat w D g po O F ts rows → rows.length = ts.length → Sl w 0 g a k → okN s v (flen k) = true → fok k = true → fsz k ≤ N → fsz k ≤ 100 → ts.length + fsz k ≤ 1000 →
    Calls Tryz.prog 49 #[.pointer (some ⟨g, po, none⟩), .agg #[.int .i64 s, .int .i64 v, .slice a (flen k) c]] w (FlPost D g po O ts rows s v k w) := by
  induction N using Nat.strongRecOn with
  | _ N ih =>
    intro s v a c k O F ts rows w hf hlen hl hok hfk hN hN2 hN3
    have hfl := flen_le_sz k
    have IH := Lib.hid ih
    clear ih
    have HF := Lib.hid hf
    have HL := Lib.hid hl
    have HOK := Lib.hid hok
    have HLEN := Lib.hid hlen
    obtain ⟨tj, htj, htjz, htjs, htjb⟩ := Tryz.infoIS
    obtain ⟨ti1, hti1, hti1z, hti1s, hti1b⟩ := Tryz.infoI
    have HTI1 : Hid (Tryz.prog.info? 3 = some ti1 ∧ ti1.zero = some (.int .i64 0) ∧ ti1.size = 1 ∧ ti1.bytes = 8) := ⟨hti1, hti1z, hti1s, hti1b⟩
    clear hti1 hti1z hti1s hti1b
    have HTJ : Hid (Tryz.prog.info? 23 = some tj ∧ tj.zero = some (.slice none 0 0) ∧ tj.size = 1 ∧ tj.bytes = 24) := ⟨htj, htjz, htjs, htjb⟩
    have hrl : rows.length ≤ 1000 := by omega
    have HFK := Lib.hid hfk
    obtain ⟨ti, hti, htz, hts, htb⟩ := Tryz.infoTerm
    have HTI := Lib.hid hti
    have HTZ := Lib.hid htz
    have HTS := Lib.hid hts
    have HTB := Lib.hid htb
    have hcA := hf.cA
    have hcK := hf.cK
    have hgw : g < w.heap.size := Nat.lt_of_lt_of_le hf.gD hf.big
    have hDw := hf.big
    -- behind the box
    have hb1 : Below w.heap.size w (w.alloc (.cells #[.int .i64 s, .int .i64 v, .slice a (flen k) c] 26)) := (Below.refl _ _).alloc (Nat.le_refl _) _
    have HF1 := Lib.hid (hf.low hb1)
    have hcA1 := HF1.out.cA
    have hcB0 : (w.alloc (.cells #[.int .i64 s, .int .i64 v, .slice a (flen k) c] 26)).cell? ⟨w.heap.size, 0, none⟩ = some (.int .i64 s) := by rw [World.cell?_alloc_at _ _ _ _ rfl]; rfl
    have hcB1 : (w.alloc (.cells #[.int .i64 s, .int .i64 v, .slice a (flen k) c] 26)).cell? ⟨w.heap.size, 1, none⟩ = some (.int .i64 v) := by rw [World.cell?_alloc_at _ _ _ _ rfl]; rfl
    have hcB2 : (w.alloc (.cells #[.int .i64 s, .int .i64 v, .slice a (flen k) c] 26)).cell? ⟨w.heap.size, 2, none⟩ = some (.slice a (flen k) c) := by rw [World.cell?_alloc_at _ _ _ _ rfl]; rfl
    have hbx : (w.alloc (.cells #[.int .i64 s, .int .i64 v, .slice a (flen k) c] 26)).heap[w.heap.size]? = some (.cells #[.int .i64 s, .int .i64 v, .slice a (flen k) c] 26 (0, 0)) := heap_alloc_new _ _
    have hs1 : (w.alloc (.cells #[.int .i64 s, .int .i64 v, .slice a (flen k) c] 26)).heap.size = w.heap.size + 1 := by simp
    have HBX := Lib.hid hbx
    have HB1 := Lib.hid hb1
    have HS1 := Lib.hid hs1
    clear hbx hb1 hs1
    clear hf hl hok hfk hti htz hts htb hlen htj htjz htjs htjb
    go_enter Tryz.func49, Tryz.ntmps49
    go_wp2_with fail
    generalize (w.alloc (.cells #[.int .i64 s, .int .i64 v, .slice a (flen k) c] 26)) = w1 at *
    have hx0 : ∀ u : SeenC (cellsT g po (F.a ts.length) w.heap.size s v (.slice a (flen k) c)), u.world.cell? ⟨g, po, none⟩ = some (.slice F.A ts.length F.CA) := fun u => u.at_ (_, _) (by simp [cellsT])
    have hx1 : ∀ u : SeenC (cellsT g po (F.a ts.length) w.heap.size s v (.slice a (flen k) c)), u.world.cell? ⟨w.heap.size, 0, none⟩ = some (.int .i64 s) := fun u => u.at_ (_, _) (by simp [cellsT])
    have hx2 : ∀ u : SeenC (cellsT g po (F.a ts.length) w.heap.size s v (.slice a (flen k) c)), u.world.cell? ⟨w.heap.size, 1, none⟩ = some (.int .i64 v) := fun u => u.at_ (_, _) (by simp [cellsT])
    have hx3 : ∀ u : SeenC (cellsT g po (F.a ts.length) w.heap.size s v (.slice a (flen k) c)), u.world.cell? ⟨w.heap.size, 2, none⟩ = some (.slice a (flen k) c) := fun u => u.at_ (_, _) (by simp [cellsT])
    have hsee : ∀ w2 : World, Below w1.heap.size w1 w2 → ∃ u : SeenC (cellsT g po (F.a ts.length) w.heap.size s v (.slice a (flen k) c)), w2 = u.world := fun w2 h2 => ⟨⟨w2, fun p hp => by
      simp only [cellsT, List.mem_cons, List.not_mem_nil, or_false] at hp
      rcases hp with rfl | rfl | rfl | rfl
      · exact cell_low h2 hcA1
      · exact cell_low h2 hcB0
      · exact cell_low h2 hcB1
      · exact cell_low h2 hcB2⟩, rfl⟩
    have HSEE := Lib.hid hsee
    clear hsee
    haveI : Nonempty (SeenC (cellsT g po (F.a ts.length) w.heap.size s v (.slice a (flen k) c))) := ⟨(HSEE.out w1 (Below.refl _ _)).choose⟩
    refine wp_region_mixP (fun w' => ∃ u : SeenC (cellsT g po (F.a ts.length) w.heap.size s v (.slice a (flen k) c)), w' = u.world) 9 12 [(0, 0), (1, 0), (2, 0), (3, 0), (4, 0), (5, 0), (6, 1), (7, 1), (8, 2), (10, 2), (11, 2)] (by kernel_rfl) (by kernel_rfl) (HSEE.out _ (Below.refl _ _).drew) ?_
    iterate 6
      refine mixp_see rfl (fun K hK => ?_)
      go_simp
      refine hK _ ?_
      clear hK K
    clear hx0 hx1 hx2 hx3
    refine mixp_hold rfl (fun K hK => ?_)
    go_simp
    refine hK _ _ (HSEE.out _ ((Below.refl w1.heap.size w1).alloc (Nat.le_refl _) _).drew) ?_
    clear hK K
    refine mixp_hold rfl (fun K hK => ?_)
    refine step_append_lies _ (by rfl) _ _ _ (by rfl) D 26 ti _ 3 40 Tryz.underlying24 HTI.out HTZ.out HTS.out HTB.out rfl (by omega) (.slice F.A ts.length F.CA) ts.length F.xs (by rfl) (own_low ((Below.refl w1.heap.size w1).alloc (Nat.le_refl _) _).drew HF1.out.oA) ⟨w1.heap.size, 0, none⟩ 1 1 [.int .i64 0, .int .i64 0, .slice none 0 0] (by rfl) (by rfl) (World.news_of_block (w := (w1.alloc _).drew) (heap_alloc_new w1 _)) (by simp [Value.oneCell']) (by omega) (by unfold maxLen; omega) (by omega) (by have := HF1.out.big; simp; omega) (w1.heap.size + 1) (by simp) ?_
    intro q cap w3 hown3 hgrow hatg hg3
    have hqw : q ≠ g := by have h1 := (hown3.lt q rfl).1; have h2 := HF1.out.gD; omega
    have hz0 : w3.cell? ⟨q, ts.length * 3, none⟩ = some (.int .i64 0) := by rw [hown3.cellAt _ (by omega), List.getElem?_append_right (by rw [HF1.out.xl]; omega), HF1.out.xl]; simp
    have hz1 : w3.cell? ⟨q, ts.length * 3 + 1, none⟩ = some (.int .i64 0) := by rw [hown3.cellAt _ (by omega), List.getElem?_append_right (by rw [HF1.out.xl]; omega), HF1.out.xl, show ts.length * 3 + 1 - ts.length * 3 = 1 from by omega]; rfl
    have hz2 : w3.cell? ⟨q, ts.length * 3 + 2, none⟩ = some (.slice none 0 0) := by rw [hown3.cellAt _ (by omega), List.getElem?_append_right (by rw [HF1.out.xl]; omega), HF1.out.xl, show ts.length * 3 + 2 - ts.length * 3 = 2 from by omega]; rfl
    have hy0 : w3.frozen? ⟨q, ts.length * 3, none⟩ = false := hown3.frozenAt _
    have hy1 : w3.frozen? ⟨q, ts.length * 3 + 1, none⟩ = false := hown3.frozenAt _
    have hy2 : w3.frozen? ⟨q, ts.length * 3 + 2, none⟩ = false := hown3.frozenAt _
    have hgA : (F.a ts.length).ownBlock ≠ some g := fun e => by have h1 := (HF1.out.oA.lt g e).1; have h2 := HF1.out.gD; omega
    have hgs : g < w1.heap.size := Nat.lt_of_lt_of_le HF1.out.gD HF1.out.big
    have hgb : w3.heap[g]? = w1.heap[g]? := by rw [hgrow.block g (by simp; omega) (fun e => hgA e.symm)]; exact Below.heap_alloc _ _ _ hgs
    have hz3 : w3.cell? ⟨g, po, none⟩ = some (.slice F.A ts.length F.CA) := (World.cell?_of_block hgb).trans HF1.out.cA
    have hy3 : w3.frozen? ⟨g, po, none⟩ = false := (World.frozen?_of_block hgb).trans HF1.out.zA
    have g1 : (0 : Int) ≤ (ts.length : Int) := by omega
    have g2 : (ts.length : Int) < (ts.length : Int) + 1 := by omega
    have hS3 : ∃ u : SeenC (cellsT g po (F.a ts.length) w.heap.size s v (.slice a (flen k) c)), w3 = u.world := by
      have hwb : w.heap.size < w1.heap.size := by have := HS1.out; omega
      have hpb : w3.heap[w.heap.size]? = w1.heap[w.heap.size]? := by
        rw [hgrow.block w.heap.size (by simp; omega) (fun e => by have := (HF.out.oA.lt _ e.symm).2; omega)]; exact Below.heap_alloc _ _ _ hwb
      refine ⟨⟨w3, fun p hp => ?_⟩, rfl⟩
      simp only [cellsT, List.mem_cons, List.not_mem_nil, or_false] at hp
      rcases hp with rfl | rfl | rfl | rfl
      · exact hz3
      · exact (World.cell?_of_block (a := ⟨w.heap.size, 0, none⟩) hpb).trans hcB0
      · exact (World.cell?_of_block (a := ⟨w.heap.size, 1, none⟩) hpb).trans hcB1
      · exact (World.cell?_of_block (a := ⟨w.heap.size, 2, none⟩) hpb).trans hcB2
    refine hK _ _ hS3 ?_
    clear hK K hS3
    iterate 3
      refine mixp_any rfl (fun K hK => ?_)
      go_simp
      refine hK _ ?_
      clear hK K
    have HX := Lib.hid (fun w4 => flat_term1 (w4 := w4) (s := s) (v := v) (c := c) HF1.out ((Below.refl w1.heap.size w1).alloc (Nat.le_refl _) _).drew hown3 hgrow hatg (HL.out.below (HB1.out.mono (Nat.le_of_lt hgw))))
    refine mixp_end ?_ ?_
    refine mixp_op rfl (fun K hK => ?_)
    go_simp
    refine hK _ _ ?_
    clear hK K
    refine mixp_op rfl (fun K hK => ?_)
    go_simp
    refine hK _ _ ?_
    clear hK K
    generalize hw4 : (((w3.setCell ⟨q, ts.length * 3, none⟩ (.int .i64 s)).setCell ⟨q, ts.length * 3 + 1, none⟩ (.int .i64 v)).setCell ⟨q, ts.length * 3 + 2, none⟩ (.slice a (flen k) c)).setCell ⟨g, po, none⟩ (.slice (some ⟨q, 0, none⟩) (ts.length + 1) cap) = w4
    replace HX := Lib.hid (HX.out w4 (.inl hw4.symm))
    clear hw4
    rotate_left
    refine mixp_op rfl (fun K hK => ?_)
    go_simp
    refine hK _ _ ?_
    clear hK K
    refine mixp_op rfl (fun K hK => ?_)
    go_simp
    refine hK _ _ ?_
    clear hK K
    generalize hw4 : (((w3.setCell ⟨g, po, none⟩ (.slice (some ⟨q, 0, none⟩) (ts.length + 1) cap)).setCell ⟨q, ts.length * 3, none⟩ (.int .i64 s)).setCell ⟨q, ts.length * 3 + 1, none⟩ (.int .i64 v)).setCell ⟨q, ts.length * 3 + 2, none⟩ (.slice a (flen k) c) = w4
    replace HX := Lib.hid (HX.out w4 (.inr hw4.symm))
    clear hw4
    all_goals
      clear hz0 hz1 hz2 hz3 hy0 hy1 hy2 hy3 g1 g2 hown3 hgrow hatg hg3 hgA hgs hgb hqw hcA1 hcB0 hcB1 hcB2 HSEE
      obtain ⟨O1, F1, hF4, hT4, hO4⟩ := HX.out
      clear HX
      have hcA4 := hF4.cA
      have hcK4 := hF4.cK
      have hzK4 := hF4.zK
      have HF4 := Lib.hid hF4
      have HT4 := Lib.hid hT4
      have HO4 := Lib.hid hO4
      clear hF4 hT4 hO4
      have HOK4 : Hid (((w4.alloc (.cells #[] 3)).alloc (.cells #[.slice (some ⟨w4.heap.size, 0, none⟩) 0 0] 23)).ownsRow D 23 1 (F1.k rows.length) rows.length F1.ks) := own_low (((Below.refl _ _).alloc (Nat.le_refl _) _).alloc (by simp) _) HF4.out.oK
      have hDw4 : D ≤ w4.heap.size := HF4.out.big
      have hgw4 : g < w4.heap.size := Nat.lt_of_lt_of_le HF4.out.gD hDw4
      go_wp2_with (at_builtin; refine wpList_append_lies _ rfl _ _ 71 rfl D 23 tj _ 1 24 Tryz.underlying71 HTJ.out.1 HTJ.out.2.1 HTJ.out.2.2.1 HTJ.out.2.2.2 rfl (by omega) (F1.k rows.length) rows.length F1.ks rfl HOK4.out ⟨w4.heap.size + 1, 0, none⟩ 1 1 [.slice (some ⟨w4.heap.size, 0, none⟩) 0 0] rfl rfl (World.news_of_block (w := (w4.alloc (.cells #[] 3)).alloc _) (by have := heap_alloc_new (w4.alloc (.cells #[] 3)) (.cells #[.slice (some ⟨w4.heap.size, 0, none⟩) 0 0] 23); simpa using this)) (by simp [Value.oneCell']) (by omega) (by unfold maxLen; omega) (by omega) (by simp; omega) (w4.heap.size + 2) (by simp) ?_; intro q2 cap2 w5 hown5 hgrow5 hat5 hq5; obtain ⟨hz5, hy5⟩ := flat_row_cells HF4.out hgrow5; have HR := Lib.hid (flat_row HF4.out hown5 hgrow5 hat5); clear hown5 hgrow5 hat5 hq5)
      clear hz5 hy5 hcA4 hcK4 hzK4 hcA hcK
      go_loopw [6] (fun i wr => ∃ (j : Nat) (O1 : Nat → Prop) (F1 : FV) (ts1 : List (Int × Int × Fo)) (rows1 : List (List Int)) (r : List Int), i = .int .i64 j ∧ j ≤ flen k ∧ Hid (PutAt D g po O ts rows s v k a c w j O1 F1 ts1 rows1 r wr)) (fun i _ => flen k - (intOf i).toNat)
      case atStart =>
        obtain ⟨O2, F2, hF6, hT6, hO6⟩ := HR.out
        exact ⟨0, O2, F2, _, _, [], rfl, Nat.zero_le _, PutAt.start HF.out HLEN.out HB1.out HBX.out HS1.out HT4.out HO4.out hF6 hT6 hO6⟩
      case round =>
        clear HR HT4 HO4 HF4 HOK4 HF1 HBX HB1 HS1
        obtain ⟨j, O1', F1', ts1, rows1, r, rfl, hj, hat⟩ := hrel
        have hb2 : wr.cell? ⟨w.heap.size, 2, none⟩ = some (.slice a (flen k) c) := cell_of_row wr w.heap.size 2 _ _ (0, 0) hat.out.box
        by_cases hlt : j < flen k
        · obtain ⟨kb, ko, s', v', kk, a', c', x, y, haE, hkb, hd, hk0, hk1, hk2, hsl⟩ := kid_cells (HL.out.same (hat.out.touch.low hgw (fun b hb => (HF.out.Ob b hb).1) HF.out.gD)) hlt
          subst haE
          have hkN := fsz_kid hd
          have hkid := fok_kid HFK.out hd
          have g1 : (0 : Int) ≤ (j : Int) := by omega
          have g2 : (j : Int) < (flen k : Int) := by omega
          have hft := ftake_le j k
          have hmany := hat.out.many
          have hfs := ftake_succ j k hd
          have hft2 := ftake_le (j + 1) k
          have HC := Lib.hid (IH.out (fsz kk) (by omega) s' v' a' c' kk O1' F1' ts1 rows1 wr hat.out.flat hat.out.len hsl hkid.1 hkid.2 (Nat.le_refl _) (by omega) (by omega))
          have HD := Lib.hid hd
          have hrl1 : r.length ≤ 1000 := by have := hat.out.rlen; omega
          have hts1 : ts1.length ≤ 1000 := by omega
          clear hd hsl hkid hfs hft hft2 hmany
          go_wp2_with fail
          with_reducible refine HC.out.mono ?_
          rintro e w2 ⟨O2, F2, ts2, rows2, rfl, hF2, hT2, hO2, hl2, hr2, hp2, hq2, htop2, hkk2⟩
          have hr9 := hq2 _ _ hat.out.row
          obtain ⟨KB, a9, c9, hK9, hx9, hc9, hy9, hio9, hKg, hKl, hKr, hgr⟩ := hF2.rowAt hr9
          have hcK2 := hF2.cK
          rw [show F2.k rows2.length = .slice (some ⟨KB, 0, none⟩) rows2.length F2.CK from by simp [FV.k, hK9]] at hcK2
          have hgs2 : g < w2.heap.size := Nat.lt_of_lt_of_le hF2.gD hF2.big
          have hn2 := (List.getElem?_eq_some_iff.1 hr9).1
          have g3 : (0 : Int) ≤ (ts.length : Int) := by omega
          have g4 : (ts.length : Int) < (rows2.length : Int) := by omega
          have HIO := Lib.hid hio9
          have HX9 := Lib.hid hx9
          have HK9 := Lib.hid hK9
          have HR9 := Lib.hid hr9
          have HF2 := Lib.hid hF2
          have HST := Lib.hid (fun O3 F3 w8 => PutAt.step (O3 := O3) (F3 := F3) (w8 := w8) hat.out (fun b hb => (HF.out.Ob b hb).2) hgw HLEN.out HD.out hT2 hO2 hl2 hr2 hp2 hq2 htop2 hkk2)
          have hDw2 : D ≤ w2.heap.size := hF2.big
          clear hat hb2 hk0 hk1 hk2 hF2 hT2 hO2 hp2 hq2 htop2 hkk2 hio9 hx9 hK9 hr9 HC hl2 hr2
          have hx0 : ∀ u : SeenC (cellsR g po (.slice (some ⟨KB, 0, none⟩) rows2.length F2.CK) KB ts.length (.slice a9 r.length c9)), u.world.cell? ⟨g, po + 1, none⟩ = some (.slice (some ⟨KB, 0, none⟩) rows2.length F2.CK) := fun u => u.at_ (_, _) (by simp [cellsR])
          have hx1 : ∀ u : SeenC (cellsR g po (.slice (some ⟨KB, 0, none⟩) rows2.length F2.CK) KB ts.length (.slice a9 r.length c9)), u.world.cell? ⟨KB, ts.length, none⟩ = some (.slice a9 r.length c9) := fun u => u.at_ (_, _) (by simp [cellsR])
          have hsee : ∀ w3 : World, w3.cell? ⟨g, po + 1, none⟩ = some (.slice (some ⟨KB, 0, none⟩) rows2.length F2.CK) → w3.cell? ⟨KB, ts.length, none⟩ = some (.slice a9 r.length c9) → ∃ u : SeenC (cellsR g po (.slice (some ⟨KB, 0, none⟩) rows2.length F2.CK) KB ts.length (.slice a9 r.length c9)), w3 = u.world := fun w3 h1 h2 => ⟨⟨w3, fun p hp => by
            simp only [cellsR, List.mem_cons, List.not_mem_nil, or_false] at hp
            rcases hp with rfl | rfl
            · exact h1
            · exact h2⟩, rfl⟩
          have HSEE := Lib.hid hsee
          clear hsee
          haveI : Nonempty (SeenC (cellsR g po (.slice (some ⟨KB, 0, none⟩) rows2.length F2.CK) KB ts.length (.slice a9 r.length c9))) := ⟨(HSEE.out w2 hcK2 hc9).choose⟩
          have HCK := Lib.hid hcK2
          have HC9 := Lib.hid hc9
          clear hcK2 hc9
          go_wp2_with fail
          refine wp_region_mix (fun w' => ∃ u : SeenC (cellsR g po (.slice (some ⟨KB, 0, none⟩) rows2.length F2.CK) KB ts.length (.slice a9 r.length c9)), w' = u.world) [16] [(0, 0), (1, 0), (2, 0), (3, 0), (4, 0), (5, 0), (6, 0), (7, 0), (8, 0), (9, 0), (10, 0), (11, 0), (12, 0), (13, 1), (14, 1), (15, 0), (16, 2)] (by kernel_rfl) (by kernel_rfl) (HSEE.out _ HCK.out HC9.out) ?_
          iterate 13
            refine mix_see rfl (fun K hK => ?_)
            go_simp
            refine hK _ ?_
            clear hK K
          refine mix_hold rfl (fun K hK => ?_)
          go_simp
          have hbw : Below w2.heap.size w2 (w2.alloc (.cells #[.int .i64 (ts1.length : Int)] 3)).drew := ((Below.refl _ _).alloc (Nat.le_refl _) _).drew
          refine hK _ _ (HSEE.out _ (cell_low hbw HCK.out) (cell_low hbw HC9.out)) ?_
          clear hK K
          refine mix_hold rfl (fun K hK => ?_)
          refine step_append_lies _ (by rfl) _ _ _ (by rfl) D 3 ti1 _ 1 8 Tryz.underlying23 HTI1.out.1 HTI1.out.2.1 HTI1.out.2.2.1 HTI1.out.2.2.2 rfl (by omega) (.slice a9 r.length c9) r.length (r.map (Value.int .i64)) (by rfl) (own_low hbw HIO.out) ⟨w2.heap.size, 0, none⟩ 1 1 [.int .i64 (ts1.length : Int)] (by rfl) (by rfl) (World.news_of_block (w := (w2.alloc _).drew) (heap_alloc_new w2 _)) (by simp [Value.oneCell']) (by omega) (by unfold maxLen; omega) (by omega) (by simp; omega) (w2.heap.size + 1) (by simp) ?_
          intro q cap w3 hown3 hgrow hatg hg3
          have hgb : w3.heap[g]? = w2.heap[g]? := by rw [hgrow.block g (by simp; omega) (fun e => hgr e.symm), hbw.block g hgs2]
          have hKb : w3.heap[KB]? = w2.heap[KB]? := by rw [hgrow.block KB (by simp; omega) (fun e => hKr e.symm), hbw.block KB hKl]
          have hz3 : w3.cell? ⟨KB, ts.length, none⟩ = some (.slice a9 r.length c9) := (World.cell?_of_block (a := ⟨KB, ts.length, none⟩) hKb).trans HC9.out
          have hy3 : w3.frozen? ⟨KB, ts.length, none⟩ = false := (World.frozen?_of_block (a := ⟨KB, ts.length, none⟩) hKb).trans hy9
          have HN := Lib.hid (flat_num HF2.out hbw HR9.out HX9.out HK9.out hown3 hgrow hatg)
          refine hK _ _ (HSEE.out _ ((World.cell?_of_block (a := ⟨g, po + 1, none⟩) hgb).trans HCK.out) hz3) ?_
          clear hK K hown3 hgrow hatg hg3 hgb hKb
          refine mix_see rfl (fun K hK => ?_)
          go_simp
          refine hK _ ?_
          clear hK K
          refine mix_late rfl (fun K hK => ?_)
          go_simp
          refine hK _ _ ?_
          clear hK K
          refine mix_end ?_
          clear hx0 hx1 hz3 hy3 hy9
          obtain ⟨O3, F3, hF8, hT8, hO8⟩ := HN.out
          have HST8 := Lib.hid (HST.out O3 F3 _ hF8 hT8 hO8)
          clear HN HST hF8 hT8 hO8
          go_wp2_with fail
          go_roundw
          case rel => exact ⟨j + 1, O3, F3, ts2, _, _, by go_num, by omega, HST8⟩
          case measure => simp [intOf]; omega
        · have hjk : j = flen k := by omega
          subst hjk
          have HDN := Lib.hid (hat.out.done HOK.out HFK.out hN2)
          clear hat
          go_wp2_with fail
          go_ret
          exact HDN.out
end Go.Proofs.YtiinmlagcbjloaaGreat
