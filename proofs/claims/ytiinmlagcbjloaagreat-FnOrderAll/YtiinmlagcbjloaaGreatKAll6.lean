/- Several texts in one: P1, P2, IS, OK0, G3, P3. -/
import Derived.Test.YtiinmlagcbjloaaGreatKAll5
import Derived.Maps.AppendAt
import Derived.Deep.AppendLies
import Derived.Test.YtiinmlagcbjloaaGreatKAll3

/-! P1: Rows of numbers and rows of rows; an append whose source may be nil or empty. Definitions and plain lemmas. -/
namespace Go.Proofs.YtiinmlagcbjloaaGreat
open Go.RowKit Go.Deep

/-- A slice's address at which the numbers xs lie. -/
def ISl (w : World) (lo B : Nat) (a : Option Addr) (xs : List Int) : Prop :=
  xs = [] ∨ ∃ b o, a = some ⟨b, o, none⟩ ∧ lo ≤ b ∧ b < B ∧ ∀ i x, xs[i]? = some x → w.cell? ⟨b, o + i, none⟩ = some (.int .i64 x)
theorem ISl.same {w w' : World} {lo B : Nat} {a : Option Addr} {xs : List Int} (hb : Same lo B w w') (h : ISl w lo B a xs) : ISl w' lo B a xs := by
  rcases h with h | ⟨b, o, e, h1, h2, h3⟩
  · exact .inl h
  · exact .inr ⟨b, o, e, h1, h2, fun i x hx => by rw [hb.cell h1 h2]; exact h3 i x hx⟩
theorem ISl.mono {w : World} {lo lo' B B' : Nat} {a : Option Addr} {xs : List Int} (hlo : lo' ≤ lo) (hB : B ≤ B') (h : ISl w lo B a xs) : ISl w lo' B' a xs := by
  rcases h with h | ⟨b, o, e, h1, h2, h3⟩
  · exact .inl h
  · exact .inr ⟨b, o, e, by omega, by omega, h3⟩
theorem ISl.below {w w' : World} {lo B : Nat} {a : Option Addr} {xs : List Int} (hb : Below B w w') (h : ISl w lo B a xs) : ISl w' lo B a xs := h.same (Same.of_below hb)
/-- .. and no more than it has room for. -/
def ISc (w : World) (lo B : Nat) (a : Option Addr) (c : Nat) (xs : List Int) : Prop := ISl w lo B a xs ∧ xs.length ≤ c
theorem ISc.same {w w' : World} {lo B : Nat} {a : Option Addr} {c : Nat} {xs : List Int} (hb : Same lo B w w') (h : ISc w lo B a c xs) : ISc w' lo B a c xs := ⟨h.1.same hb, h.2⟩
theorem ISc.mono {w : World} {lo lo' B B' : Nat} {a : Option Addr} {c : Nat} {xs : List Int} (hlo : lo' ≤ lo) (hB : B ≤ B') (h : ISc w lo B a c xs) : ISc w lo' B' a c xs := ⟨h.1.mono hlo hB, h.2⟩
/-- .. the rows. -/
def RSl (w : World) (lo B : Nat) (a : Option Addr) (rows : List (List Int)) : Prop :=
  rows = [] ∨ ∃ b o, a = some ⟨b, o, none⟩ ∧ lo ≤ b ∧ b < B ∧ ∀ i r, rows[i]? = some r → ∃ a' c', w.cell? ⟨b, o + i, none⟩ = some (.slice a' r.length c') ∧ ISc w lo B a' c' r

theorem RSl.same {w w' : World} {lo B : Nat} {a : Option Addr} {rows : List (List Int)} (hb : Same lo B w w') (h : RSl w lo B a rows) : RSl w' lo B a rows := by
  rcases h with h | ⟨b, o, e, h1, h2, h3⟩
  · exact .inl h
  · refine .inr ⟨b, o, e, h1, h2, fun i x hx => ?_⟩
    obtain ⟨a', c', hc, hi⟩ := h3 i x hx
    exact ⟨a', c', by rw [hb.cell h1 h2]; exact hc, hi.same hb⟩
theorem RSl.mono {w : World} {lo lo' B B' : Nat} {a : Option Addr} {rows : List (List Int)} (hlo : lo' ≤ lo) (hB : B ≤ B') (h : RSl w lo B a rows) : RSl w lo' B' a rows := by
  rcases h with h | ⟨b, o, e, h1, h2, h3⟩
  · exact .inl h
  · refine .inr ⟨b, o, e, by omega, by omega, fun i x hx => ?_⟩
    obtain ⟨a', c', hc, hi⟩ := h3 i x hx
    exact ⟨a', c', hc, hi.mono hlo hB⟩
theorem RSl.below {w w' : World} {lo B : Nat} {a : Option Addr} {rows : List (List Int)} (hb : Below B w w') (h : RSl w lo B a rows) : RSl w' lo B a rows := h.same (Same.of_below hb)

/-- The positions of the terms of a row, the first of which is number i. -/
def fpl : Fo → Nat → List (List Int)
  | .nil, _ => []
  | .node _ _ _ k r, i => (([] :: fpl k 0).map fun p => (i : Int) :: p) ++ fpl r (i + 1)
/-- The positions of a term. -/
def places (k : Fo) : List (List Int) := [] :: fpl k 0

/-- The source of an append. -/
def Src (w : World) (size : Nat) (A : Option Addr) (m : Nat) (news : List Value) : Prop :=
  news.length = m * size ∧ ((A = none ∧ m = 0) ∨ ∃ ad, A = some ad ∧ ∀ j u, news[j]? = some u → w.cell? (ad.add j) = some u)

section
variable {P : Program} (w : World)
theorem run_append_nil_src (t ty e : TypeId) (i : TypeInfo) (ht : P.underlying t = some (.slice e)) (hi : P.info? e = some i) (base size : Nat) (v : Value) (n : Nat) (xs : List Value) (hown : w.ownsRow base e size v n xs) (c : Nat) :
    (Builtin.append_ #[t, t] ty #[v, .slice none 0 c]).run P w = .ok v w := by
  rcases hown.2 with ⟨rfl, rfl⟩ | ⟨g, cap, cur, rfl, _, _, hnc, _⟩
  · simp [Builtin.append_, Builtin.lenOf, Builtin.firstCells, sizeOf, typeInfo, run_underlying ht, hi]
  · simp [Builtin.append_, Builtin.lenOf, Builtin.firstCells, sizeOf, typeInfo, storeCells, run_underlying ht, hi, hnc]

/-- append onto a row of the call's own, from whatever source; where the new row lies. -/
theorem run_append_src (t ty : TypeId) (base : Nat) (e : TypeId) (i : TypeInfo) (z : Value) (size bytes : Nat) (ht : P.underlying t = some (.slice e)) (hi : P.info? e = some i) (hz : i.zero = some z)
    (hsize : i.size = size) (hby : i.bytes = bytes) (hzs : z.cells.size = size) (hsz : 0 < size)
    (v : Value) (n : Nat) (xs : List Value) (hown : w.ownsRow base e size v n xs) (A : Option Addr) (m c : Nat) (news : List Value) (hsrc : Src w size A m news) (h1 : ∀ u ∈ news, u.oneCell' = true)
    (h63 : n + m ≤ maxLen) (hbytes : (n + m) * bytes ≤ 140737488355328) (hbase : base ≤ w.heap.size) :
    ∃ A' C' w', (Builtin.append_ #[t, t] ty #[v, .slice A m c]).run P w = .ok (.slice A' (n + m) C') w' ∧
      w'.ownsRow base e size (.slice A' (n + m) C') (n + m) (xs ++ news) ∧ w.grownBy w' v.ownBlock ∧ ((Value.slice A' (n + m) C').ownBlock = v.ownBlock ∨ (Value.slice A' (n + m) C').ownBlock = some w.heap.size) := by
  have form : ∀ {w' : World} {v' : Value} {n' : Nat} {ys : List Value}, w'.ownsRow base e size v' n' ys → ∃ A C, v' = .slice A n' C := fun h => by
    rcases h.2 with ⟨rfl, rfl⟩ | ⟨g, cap, cur, rfl, _⟩
    · exact ⟨none, 0, rfl⟩
    · exact ⟨_, _, rfl⟩
  rcases hsrc with ⟨hlen, ⟨rfl, rfl⟩ | ⟨ad, rfl, hc⟩⟩
  · have hn : news = [] := List.eq_nil_of_length_eq_zero (by simpa using hlen)
    subst hn
    obtain ⟨A', C', rfl⟩ := form hown
    refine ⟨A', C', w, run_append_nil_src w t ty e i ht hi base size _ n xs hown c, by simpa using hown, ⟨rfl, rfl, rfl, Nat.le_refl _, fun _ _ _ => rfl⟩, .inl rfl⟩
  · obtain ⟨v', w', hr, h2, h3, _, h5⟩ := run_append_own_at (P := P) w base t ty e i z size bytes ht hi hz hsize hby hzs hsz v n xs hown ad m c news hlen hc h1 h63 hbytes hbase
    obtain ⟨A', C', rfl⟩ := form h2
    exact ⟨A', C', w', hr, h2, h3, h5⟩

theorem wp_append_src {o : Oper} {a : Act} {K : Act → World → Prop} {Q : Exit → Act → World → Prop} (s x : Operand) (t : TypeId) (ho : o.op = .call { callee := .builtin .append, args := #[s, x], argTypes := #[t, t] })
    (base : Nat) (e : TypeId) (i : TypeInfo) (z : Value) (size bytes : Nat) (ht : P.underlying t = some (.slice e)) (hi : P.info? e = some i) (hz : i.zero = some z)
    (hsize : i.size = size) (hby : i.bytes = bytes) (hzs : z.cells.size = size) (hsz : 0 < size)
    (v : Value) (n : Nat) (xs : List Value) (hs : a.eval s = v) (hown : w.ownsRow base e size v n xs) (A : Option Addr) (m c : Nat) (news : List Value) (hx : a.eval x = .slice A m c) (hsrc : Src w size A m news) (h1 : ∀ u ∈ news, u.oneCell' = true)
    (h63 : n + m ≤ maxLen) (hbytes : (n + m) * bytes ≤ 140737488355328) (hbase : base ≤ w.heap.size)
    (h : ∀ A' C' w', w'.ownsRow base e size (.slice A' (n + m) C') (n + m) (xs ++ news) → w.grownBy w' v.ownBlock → ((Value.slice A' (n + m) C').ownBlock = v.ownBlock ∨ (Value.slice A' (n + m) C').ownBlock = some w.heap.size) → K (a.put o.dst (.slice A' (n + m) C')) w') : o.wp P a w K Q := by
  obtain ⟨A', C', w', hr, h2, h3, h4⟩ := run_append_src (P := P) w t o.type base e i z size bytes ht hi hz hsize hby hzs hsz v n xs hown A m c news hsrc h1 h63 hbytes hbase
  unfold Oper.wp execOp
  simp only [ho, resolve, invoke, builtin, Sem.run_bind, Sem.run_pure, Result.andThen_ok, List.map_toArray, List.map_cons, List.map_nil, hs, hx, hr]
  exact h A' C' w' h2 h3 h4
theorem wpList_append_src {ops : Array Oper} {rest : List Oper} {o : Oper} {a : Act} {Q : Exit → Act → World → Prop} (hgd : o.guard = none) (s x : Operand) (t : TypeId) (ho : o.op = .call { callee := .builtin .append, args := #[s, x], argTypes := #[t, t] })
    (base : Nat) (e : TypeId) (i : TypeInfo) (z : Value) (size bytes : Nat) (ht : P.underlying t = some (.slice e)) (hi : P.info? e = some i) (hz : i.zero = some z)
    (hsize : i.size = size) (hby : i.bytes = bytes) (hzs : z.cells.size = size) (hsz : 0 < size)
    (v : Value) (n : Nat) (xs : List Value) (hs : a.eval s = v) (hown : w.ownsRow base e size v n xs) (A : Option Addr) (m c : Nat) (news : List Value) (hx : a.eval x = .slice A m c) (hsrc : Src w size A m news) (h1 : ∀ u ∈ news, u.oneCell' = true)
    (h63 : n + m ≤ maxLen) (hbytes : (n + m) * bytes ≤ 140737488355328) (hbase : base ≤ w.heap.size)
    (h : ∀ A' C' w', w'.ownsRow base e size (.slice A' (n + m) C') (n + m) (xs ++ news) → w.grownBy w' v.ownBlock → ((Value.slice A' (n + m) C').ownBlock = v.ownBlock ∨ (Value.slice A' (n + m) C').ownBlock = some w.heap.size) → wpList P ops Q rest (a.put o.dst (.slice A' (n + m) C')) w') : wpList P ops Q (o :: rest) a w :=
  wpList_plain hgd fun _ hK => wp_append_src w s x t ho base e i z size bytes ht hi hz hsize hby hzs hsz v n xs hs hown A m c news hx hsrc h1 h63 hbytes hbase fun A' C' w' h2 h3 h4 => hK _ _ (h A' C' w' h2 h3 h4)
theorem step_append_src {ops : Array Oper} {o : Oper} {a : Act} {K : Act → World → Prop} {Q : Exit → Act → World → Prop} {E : Prop} (hgd : o.guard = none) (s x : Operand) (t : TypeId) (ho : o.op = .call { callee := .builtin .append, args := #[s, x], argTypes := #[t, t] })
    (base : Nat) (e : TypeId) (i : TypeInfo) (z : Value) (size bytes : Nat) (ht : P.underlying t = some (.slice e)) (hi : P.info? e = some i) (hz : i.zero = some z)
    (hsize : i.size = size) (hby : i.bytes = bytes) (hzs : z.cells.size = size) (hsz : 0 < size)
    (v : Value) (n : Nat) (xs : List Value) (hs : a.eval s = v) (hown : w.ownsRow base e size v n xs) (A : Option Addr) (m c : Nat) (news : List Value) (hx : a.eval x = .slice A m c) (hsrc : Src w size A m news) (h1 : ∀ u ∈ news, u.oneCell' = true)
    (h63 : n + m ≤ maxLen) (hbytes : (n + m) * bytes ≤ 140737488355328) (hbase : base ≤ w.heap.size)
    (h : ∀ A' C' w', w'.ownsRow base e size (.slice A' (n + m) C') (n + m) (xs ++ news) → w.grownBy w' v.ownBlock → ((Value.slice A' (n + m) C').ownBlock = v.ownBlock ∨ (Value.slice A' (n + m) C').ownBlock = some w.heap.size) → K (a.put o.dst (.slice A' (n + m) C')) w') :
    if Region.wanted o (yielded ops a.tmps) = true then Oper.wp P o a w K Q else E := by
  have hw : Region.wanted o (yielded ops a.tmps) = true := by simp [Region.wanted, hgd]
  rw [if_pos hw]
  exact wp_append_src w s x t ho base e i z size bytes ht hi hz hsize hby hzs hsz v n xs hs hown A m c news hx hsrc h1 h63 hbytes hbase h
end

theorem Tryz.infoI : ∃ i, Tryz.prog.info? 3 = some i ∧ i.zero = some (.int .i64 0) ∧ i.size = 1 ∧ i.bytes = 8 := by
  have h : (Tryz.prog.info? 3).map (fun i => (i.zero, i.size, i.bytes)) = some (some (.int .i64 0), 1, 8) := by kernel_rfl
  obtain ⟨i, hi, hz⟩ := Option.map_eq_some_iff.1 h
  simp only [Prod.mk.injEq] at hz
  exact ⟨i, hi, hz.1, hz.2.1, hz.2.2⟩
theorem Tryz.infoIS : ∃ i, Tryz.prog.info? 23 = some i ∧ i.zero = some (.slice none 0 0) ∧ i.size = 1 ∧ i.bytes = 24 := by
  have h : (Tryz.prog.info? 23).map (fun i => (i.zero, i.size, i.bytes)) = some (some (.slice none 0 0), 1, 24) := by kernel_rfl
  obtain ⟨i, hi, hz⟩ := Option.map_eq_some_iff.1 h
  simp only [Prod.mk.injEq] at hz
  exact ⟨i, hi, hz.1, hz.2.1, hz.2.2⟩
end Go.Proofs.YtiinmlagcbjloaaGreat

/-! P2: kidsOf; rows of the call's own. -/
namespace Go.Proofs.YtiinmlagcbjloaaGreat
open Go.RowKit Go.Deep

def KidsPost (B : Nat) (k : Fo) (w : World) (e : Ending) (w' : World) : Prop := ∃ a c, e = .returned (.slice a (flen k) c) ∧ Below w.heap.size w w' ∧ NSl w 0 B a k

theorem assert_var (v : Int) (w : World) : (Instr.typeAssert (.iface 87 (.int .i64 v)) 52 99 true).run Tryz.prog w = .ok (.tuple #[.agg #[.int .i64 0, .slice none 0 0], .bool false]) w := by kernel_rfl
theorem assert_sym (s : Int) (a : Option Addr) (n c : Nat) (w : World) : (Instr.typeAssert (.iface 99 (.agg #[.int .i64 s, .slice a n c])) 52 99 true).run Tryz.prog w = .ok (.tuple #[.agg #[.int .i64 s, .slice a n c], .bool true]) w := by kernel_rfl

set_option maxRecDepth 100000 in
set_option maxHeartbeats 400000 in
theorem kidsOf_any (s v : Int) (k : Fo) (nv : Value) (B : Nat) (w : World) (hn : NodeIs w 0 B nv s v k) : Calls Tryz.prog 43 #[nv] w (KidsPost B k w) := by
  have hta := assert_var
  have htb := assert_sym
  rcases hn with ⟨rfl, rfl, rfl⟩ | ⟨hs, a, c, rfl, hn⟩
  · go_enter Tryz.func43, Tryz.ntmps43
    go_wp2_with fail
    go_ret
    exact ⟨none, 0, rfl, Below.refl _ _, .inl rfl⟩
  · have HN := Lib.hid hn
    clear hn
    go_enter Tryz.func43, Tryz.ntmps43
    go_wp2_with fail
    go_ret
    exact ⟨a, c, rfl, (Below.refl _ _).alloc (Nat.le_refl _) _, HN.out⟩

/-- The slice (A, m, C) is a row of rows of the call's own, made from block base on; no row below it lies in its own block. -/
def ROwn (w : World) (base : Nat) (rows : List (List Int)) (A : Option Addr) (C : Nat) : Prop :=
  ∃ xs : List Value, w.ownsRow base 23 1 (.slice A rows.length C) rows.length xs ∧ ∀ (i : Nat) (r : List Int), rows[i]? = some r → ∃ a' c' L H, xs[i]? = some (Value.slice a' r.length c') ∧ ISc w L H a' c' r ∧ base ≤ L ∧ H ≤ w.heap.size ∧
    (∀ g, (Value.slice A rows.length C).ownBlock = some g → g < L ∨ H ≤ g)

theorem ROwn.sl {w : World} {base : Nat} {rows : List (List Int)} {A : Option Addr} {C : Nat} (h : ROwn w base rows A C) : RSl w base w.heap.size A rows := by
  obtain ⟨xs, hown, hall⟩ := h
  rcases Nat.eq_zero_or_pos rows.length with h0 | h0
  · exact .inl (List.eq_nil_of_length_eq_zero h0)
  · obtain ⟨g, cap, hv, hb, hlt⟩ := hown.form h0
    have hA : A = some ⟨g, 0, none⟩ := by simp only [Value.slice.injEq] at hv; exact hv.1
    have hc := hown.cells (g := g) (by rw [hA]; rfl)
    have ha : ∀ n, (⟨g, 0, none⟩ : Addr).add n = ⟨g, 0 + n, none⟩ := fun n => by unfold Addr.add; split <;> simp_all
    refine .inr ⟨g, 0, hA, hb, hlt, fun i r hr => ?_⟩
    obtain ⟨a', c', L, H, hx, hi, hL, hH, _⟩ := hall i r hr
    exact ⟨a', c', by have := hc _ _ hx; rwa [ha] at this, hi.mono hL hH⟩
theorem ROwn.low {w w2 : World} {base base' : Nat} {rows : List (List Int)} {A : Option Addr} {C : Nat} (h : ROwn w base rows A C) (hb : Below w.heap.size w w2) (hbase : base' ≤ base) : ROwn w2 base' rows A C := by
  obtain ⟨xs, hown, hall⟩ := h
  refine ⟨xs, own_base hbase (own_low hb hown), fun i r hr => ?_⟩
  obtain ⟨a', c', L, H, hx, hi, hL, hH, hg⟩ := hall i r hr
  exact ⟨a', c', L, H, hx, hi.same (fun b _ hb' => hb.block b (by omega)), by omega, Nat.le_trans hH hb.size, hg⟩
/-- One more row is appended: w: where the rows stood; w2: where the new one lies too; blk: the block that shows it to append. -/
theorem ROwn.append {w w2 w3 : World} {base : Nat} {rows : List (List Int)} {A A' : Option Addr} {C C' : Nat} {blk : Obj} {r : List Int} {a2 : Option Addr} {c2 : Nat} {xs : List Value} (hown : w.ownsRow base 23 1 (.slice A rows.length C) rows.length xs)
    (hall : ∀ (i : Nat) (r : List Int), rows[i]? = some r → ∃ a' c' L H, xs[i]? = some (Value.slice a' r.length c') ∧ ISc w L H a' c' r ∧ base ≤ L ∧ H ≤ w.heap.size ∧ (∀ g, (Value.slice A rows.length C).ownBlock = some g → g < L ∨ H ≤ g))
    (hown3 : w3.ownsRow base 23 1 (.slice A' (rows.length + 1) C') (rows.length + 1) (xs ++ [.slice a2 r.length c2])) (hb2 : Below w.heap.size w w2) (hi2 : ISc w2 w.heap.size w2.heap.size a2 c2 r) (hbase : base ≤ w.heap.size)
    (hgrow : (w2.alloc blk).grownBy w3 (Value.slice A rows.length C).ownBlock) (hat : (Value.slice A' (rows.length + 1) C').ownBlock = (Value.slice A rows.length C).ownBlock ∨ (Value.slice A' (rows.length + 1) C').ownBlock = some (w2.heap.size + 1)) : ROwn w3 base (rows ++ [r]) A' C' := by
  have hs2 := hb2.size
  have hs3 := hgrow.size
  simp at hs3
  have hxl : xs.length = rows.length := by have := hown.1; omega
  have hl : (rows ++ [r]).length = rows.length + 1 := by simp
  rw [ROwn, hl]
  refine ⟨_, hown3, fun i r' hr => ?_⟩
  have hcond : ∀ {L H : Nat}, (∀ g, (Value.slice A rows.length C).ownBlock = some g → g < L ∨ H ≤ g) → H ≤ w2.heap.size → ∀ g', (Value.slice A' (rows.length + 1) C').ownBlock = some g' → g' < L ∨ H ≤ g' := fun hg hH g' hg' => by
    rcases hat with h1 | h1
    · exact hg g' (by rw [← h1]; exact hg')
    · rw [h1] at hg'; simp at hg'; omega
  by_cases hi : i < rows.length
  · rw [List.getElem?_append_left hi] at hr
    obtain ⟨a', c', L, H, hx, hsl, hL, hH, hg⟩ := hall i r' hr
    refine ⟨a', c', L, H, by rw [List.getElem?_append_left (by omega)]; exact hx, hsl.same (fun b h1 h2 => ?_), hL, by omega, hcond hg (by omega)⟩
    rw [hgrow.block b (by simp; omega) (fun e => by have := hg b e.symm; omega), Below.heap_alloc _ _ _ (by omega), hb2.block b (by omega)]
  · have hir : i = rows.length := by
      have := (List.getElem?_eq_some_iff.1 hr).1
      simp at this
      omega
    subst hir
    simp at hr
    subst hr
    refine ⟨a2, c2, w.heap.size, w2.heap.size, by rw [← hxl]; simp, hi2.same (fun b h1 h2 => ?_), hbase, by omega, hcond (fun g hg => .inl (hown.lt _ hg).2) (Nat.le_refl _)⟩
    rw [hgrow.block b (by simp; omega) (fun e => by have := (hown.lt b e.symm).2; omega), Below.heap_alloc _ _ _ (by omega)]

/-- Numbers that a row of the call's own holds. -/
theorem isl_of_own {w : World} {base : Nat} {A : Option Addr} {C n : Nat} {xs : List Int} (h : w.ownsRow base 3 1 (.slice A n C) n (xs.map (Value.int .i64))) : ISl w base w.heap.size A xs := by
  have hl : xs.length = n := by have := h.1; simpa using this
  rcases Nat.eq_zero_or_pos n with h0 | h0
  · exact .inl (List.eq_nil_of_length_eq_zero (by omega))
  · obtain ⟨g, cap, hv, hb, hlt⟩ := h.form h0
    have hA : A = some ⟨g, 0, none⟩ := by simp only [Value.slice.injEq] at hv; exact hv.1
    have hc := h.cells (g := g) (by rw [hA]; rfl)
    have ha : ∀ n, (⟨g, 0, none⟩ : Addr).add n = ⟨g, 0 + n, none⟩ := fun n => by unfold Addr.add; split <;> simp_all
    refine .inr ⟨g, 0, hA, hb, hlt, fun i x hx => ?_⟩
    have := hc i (.int .i64 x) (by simp [hx])
    rwa [ha] at this
/-- The source of an append of numbers. -/
theorem own_cap {w : World} {base : Nat} {A : Option Addr} {C n e : Nat} {xs : List Value} (h : w.ownsRow base e 1 (.slice A n C) n xs) : n ≤ C := by
  rcases h.2 with ⟨_, h2⟩ | ⟨g, cap, cur, h3, _, _, h6, _⟩
  · omega
  · simp only [Value.slice.injEq] at h3
    omega
theorem isc_of_own {w : World} {base : Nat} {A : Option Addr} {C n : Nat} {xs : List Int} (h : w.ownsRow base 3 1 (.slice A n C) n (xs.map (Value.int .i64))) : ISc w base w.heap.size A C xs :=
  ⟨isl_of_own h, by have := own_cap h; have := h.1; simp at this; omega⟩
theorem src_of_isl {w : World} {lo B : Nat} {a : Option Addr} {xs : List Int} (h : ISl w lo B a xs) (hn : a = none → xs = []) : Src w 1 a xs.length (xs.map (Value.int .i64)) := by
  refine ⟨by simp, ?_⟩
  cases a with
  | none => exact .inl ⟨rfl, by rw [hn rfl]; rfl⟩
  | some ad =>
    refine .inr ⟨ad, rfl, fun j u hu => ?_⟩
    rcases h with h | ⟨b, o, e, h1, h2, h3⟩
    · rw [h] at hu; simp at hu
    · have ha : ad = ⟨b, o, none⟩ := by simpa using e
      subst ha
      rw [List.getElem?_map, Option.map_eq_some_iff] at hu
      obtain ⟨x, hx, rfl⟩ := hu
      rw [show (⟨b, o, none⟩ : Addr).add j = ⟨b, o + j, none⟩ from by unfold Addr.add; split <;> simp_all]
      exact h3 j x hx
theorem isl_none {w : World} {lo B : Nat} {xs : List Int} (h : ISl w lo B none xs) : xs = [] := by
  rcases h with h | ⟨b, o, e, _⟩
  · exact h
  · cases e
end Go.Proofs.YtiinmlagcbjloaaGreat

/-! IS: Rows of numbers: what a place of one holds, one of the call's own. -/
namespace Go.Proofs.YtiinmlagcbjloaaGreat
open Go.RowKit Go.Deep

theorem isl_at {w : World} {lo B : Nat} {a : Option Addr} {xs : List Int} {i : Nat} (h : ISl w lo B a xs) (hi : i < xs.length) :
    ∃ b o, a = some ⟨b, o, none⟩ ∧ lo ≤ b ∧ b < B ∧ w.cell? ⟨b, o + i, none⟩ = some (.int .i64 xs[i]) := by
  rcases h with rfl | ⟨b, o, e, h1, h2, h3⟩
  · simp at hi
  · exact ⟨b, o, e, h1, h2, h3 i _ (List.getElem?_eq_getElem hi)⟩

def IOwn (w : World) (base : Nat) (xs : List Int) (A : Option Addr) (C : Nat) : Prop := w.ownsRow base 3 1 (.slice A xs.length C) xs.length (xs.map (Value.int .i64))

theorem IOwn.base {w : World} {base base' : Nat} {xs : List Int} {A : Option Addr} {C : Nat} (h : IOwn w base xs A C) (hb : base' ≤ base) : IOwn w base' xs A C := own_base hb h
theorem IOwn.sl {w : World} {base : Nat} {xs : List Int} {A : Option Addr} {C : Nat} (h : IOwn w base xs A C) : ISl w base w.heap.size A xs := isl_of_own h
theorem IOwn.low {w w2 : World} {base : Nat} {xs : List Int} {A : Option Addr} {C : Nat} (h : IOwn w base xs A C) (hb : Below w.heap.size w w2) : IOwn w2 base xs A C := own_low hb h
end Go.Proofs.YtiinmlagcbjloaaGreat

/-! OK0: Rankings as plain data: what the program asks of one, and what the specification asks, are the same. -/
namespace Go.Proofs.YtiinmlagcbjloaaGreat
open Go.RowKit Go.Deep

def rkOk (xs : List Int) : Bool := decide (xs.length = 4) && (xs.contains 1 && (xs.contains 2 && (xs.contains 3 && xs.contains 4)))
def RkS (xs : List Int) : Prop := (∀ (i : Nat) (x : Int), xs[i]? = some x → 1 ≤ x ∧ x ≤ 4) ∧ ∀ (i k : Nat) (x y : Int), k < i → xs[k]? = some x → xs[i]? = some y → x ≠ y

theorem rk4 (a b c d : Int) (h1 : a = 1 ∨ b = 1 ∨ c = 1 ∨ d = 1) (h2 : a = 2 ∨ b = 2 ∨ c = 2 ∨ d = 2) (h3 : a = 3 ∨ b = 3 ∨ c = 3 ∨ d = 3) (h4 : a = 4 ∨ b = 4 ∨ c = 4 ∨ d = 4) :
    (1 ≤ a ∧ a ≤ 4) ∧ (1 ≤ b ∧ b ≤ 4) ∧ (1 ≤ c ∧ c ≤ 4) ∧ (1 ≤ d ∧ d ≤ 4) ∧ a ≠ b ∧ a ≠ c ∧ a ≠ d ∧ b ≠ c ∧ b ≠ d ∧ c ≠ d := by
  rcases h1 with h1 | h1 | h1 | h1 <;> rcases h2 with h2 | h2 | h2 | h2 <;> rcases h3 with h3 | h3 | h3 | h3 <;> rcases h4 with h4 | h4 | h4 | h4 <;> omega
theorem rk4' (a b c d n : Int) (hn : 1 ≤ n ∧ n ≤ 4) (ha : 1 ≤ a ∧ a ≤ 4) (hb : 1 ≤ b ∧ b ≤ 4) (hc : 1 ≤ c ∧ c ≤ 4) (hd : 1 ≤ d ∧ d ≤ 4) (h1 : a ≠ b) (h2 : a ≠ c) (h3 : a ≠ d) (h4 : b ≠ c) (h5 : b ≠ d) (h6 : c ≠ d) :
    n = a ∨ n = b ∨ n = c ∨ n = d := by omega
theorem len4 {xs : List Int} (h : xs.length = 4) : ∃ a b c d, xs = [a, b, c, d] := by
  match xs, h with
  | [a, b, c, d], _ => exact ⟨a, b, c, d, rfl⟩

theorem rk_iff {xs : List Int} (h : xs.length = 4) : rkOk xs = true ↔ RkS xs := by
  obtain ⟨a, b, c, d, rfl⟩ := len4 h
  constructor
  · intro hr
    simp only [rkOk, List.contains_eq_mem, List.mem_cons, List.not_mem_nil, or_false, Bool.and_eq_true, decide_eq_true_eq] at hr
    obtain ⟨_, h1, h2, h3, h4⟩ := hr
    obtain ⟨ha, hb, hc, hd, e1, e2, e3, e4, e5, e6⟩ := rk4 a b c d (by omega) (by omega) (by omega) (by omega)
    refine ⟨fun i x hx => ?_, fun i k x y hk hx hy => ?_⟩
    · match i, hx with
      | 0, hx => simp at hx; omega
      | 1, hx => simp at hx; omega
      | 2, hx => simp at hx; omega
      | 3, hx => simp at hx; omega
      | n + 4, hx => simp at hx
    · match i, k, hk, hx, hy with
      | 1, 0, _, hx, hy => simp at hx hy; omega
      | 2, 0, _, hx, hy => simp at hx hy; omega
      | 2, 1, _, hx, hy => simp at hx hy; omega
      | 3, 0, _, hx, hy => simp at hx hy; omega
      | 3, 1, _, hx, hy => simp at hx hy; omega
      | 3, 2, _, hx, hy => simp at hx hy; omega
      | n + 4, _, _, _, hy => simp at hy
  · rintro ⟨h1, h2⟩
    have ha := h1 0 a rfl
    have hb := h1 1 b rfl
    have hc := h1 2 c rfl
    have hd := h1 3 d rfl
    have e1 := h2 1 0 a b (by omega) rfl rfl
    have e2 := h2 2 0 a c (by omega) rfl rfl
    have e3 := h2 3 0 a d (by omega) rfl rfl
    have e4 := h2 2 1 b c (by omega) rfl rfl
    have e5 := h2 3 1 b d (by omega) rfl rfl
    have e6 := h2 3 2 c d (by omega) rfl rfl
    simp only [rkOk, List.contains_eq_mem, List.mem_cons, List.not_mem_nil, or_false, Bool.and_eq_true, decide_eq_true_eq]
    exact ⟨rfl, rk4' a b c d 1 (by omega) ha hb hc hd e1 e2 e3 e4 e5 e6, rk4' a b c d 2 (by omega) ha hb hc hd e1 e2 e3 e4 e5 e6, rk4' a b c d 3 (by omega) ha hb hc hd e1 e2 e3 e4 e5 e6, rk4' a b c d 4 (by omega) ha hb hc hd e1 e2 e3 e4 e5 e6⟩
theorem rk_no {xs : List Int} (h : xs.length ≠ 4) : rkOk xs = false := by simp [rkOk, h]
/-- The numbers from 1 on below j are there. -/
def RkTo (xs : List Int) (j : Int) : Prop := ∀ q, 1 ≤ q → q < j → xs.contains q = true
theorem RkTo.next {xs : List Int} {j : Int} (h : RkTo xs j) (hc : xs.contains j = true) : RkTo xs (j + 1) := fun q h1 h2 => by
  by_cases e : q = j
  · rw [e]; exact hc
  · exact h q h1 (by omega)
theorem rk_all {xs : List Int} (h : xs.length = 4) (ht : RkTo xs 5) : rkOk xs = true := by
  unfold rkOk
  rw [ht 1 (by omega) (by omega), ht 2 (by omega) (by omega), ht 3 (by omega) (by omega), ht 4 (by omega) (by omega), h]
  rfl
theorem rk_miss {xs : List Int} {j : Int} (h0 : 1 ≤ j) (h1 : j ≤ 4) (hc : xs.contains j = false) : rkOk xs = false := by
  have : j = 1 ∨ j = 2 ∨ j = 3 ∨ j = 4 := by omega
  rcases this with rfl | rfl | rfl | rfl <;> simp only [rkOk, hc, Bool.and_false, Bool.false_and]
theorem getD_of {xs : List Int} {j : Nat} (h : j < xs.length) : xs.getD j 0 = xs[j] := by simp [h]
end Go.Proofs.YtiinmlagcbjloaaGreat

/-! G3: The order's parts as the program takes them: plain lemmas. -/
namespace Go.Proofs.YtiinmlagcbjloaaGreat
open Go.RowKit Go.Deep

/-- A proposition as a truth value. -/
noncomputable def pB (p : Prop) : Bool := @decide p (Classical.propDecidable p)
theorem pB_t {p : Prop} : pB p = true ↔ p := @decide_eq_true_iff p (Classical.propDecidable p)
theorem pB_f {p : Prop} : pB p = false ↔ ¬ p := @decide_eq_false_iff_not p (Classical.propDecidable p)
theorem pB_congr {p q : Prop} (h : p ↔ q) : pB p = pB q := by rw [propext h]
theorem pB_true {p : Prop} (h : p) : pB p = true := pB_t.2 h
theorem pB_false {p : Prop} (h : ¬ p) : pB p = false := pB_f.2 h

theorem all_cons {rk : Int → Nat} {s x : Tm} {l : List Tm} : All rk s (x :: l) ↔ Gt rk s x ∧ All rk s l := by
  constructor
  · exact fun h => ⟨h x (by simp), fun u hu => h u (by simp [hu])⟩
  · rintro ⟨h1, h2⟩ u hu
    rcases List.mem_cons.1 hu with rfl | hu
    · exact h1
    · exact h2 u hu
theorem reach_cons {rk : Int → Nat} {t x : Tm} {l : List Tm} : Reach rk (x :: l) t ↔ (x = t ∨ Gt rk x t) ∨ Reach rk l t := by
  constructor
  · rintro ⟨u, hu, h⟩
    rcases List.mem_cons.1 hu with rfl | hu
    · exact .inl h
    · exact .inr ⟨u, hu, h⟩
  · rintro (h | ⟨u, hu, h⟩)
    · exact ⟨x, by simp, h⟩
    · exact ⟨u, by simp [hu], h⟩
theorem all_nil {rk : Int → Nat} {s : Tm} : All rk s [] := fun u hu => by cases hu
theorem reach_nil {rk : Int → Nat} {t : Tm} : ¬ Reach rk [] t := fun ⟨_, hu, _⟩ => by cases hu
theorem drop_at {l : List Tm} {j : Nat} {x : Tm} (h : l[j]? = some x) : l.drop j = x :: l.drop (j + 1) := by
  obtain ⟨hj, hx⟩ := List.getElem?_eq_some_iff.1 h
  rw [List.drop_eq_getElem_cons hj, hx]

/-- Where two rows first differ. -/
def fdif : Fo → Fo → Nat
  | .node _ _ p k r, .node _ _ p' k' r' => if teq p.1 p.2 k p'.1 p'.2 k' = true then 1 + fdif r r' else 0
  | _, _ => 0
theorem fdif_same {k k' : Fo} {j x y x' y' : Nat} {s v s' v' : Int} {kk kk' : Fo} (h : fdrop j k = .node x y (s, v) kk (fdrop (j + 1) k)) (h' : fdrop j k' = .node x' y' (s', v') kk' (fdrop (j + 1) k')) (ht : teq s v kk s' v' kk' = true) :
    fdif (fdrop j k) (fdrop j k') = 1 + fdif (fdrop (j + 1) k) (fdrop (j + 1) k') := by
  rw [h, h', fdif, if_pos ht]
theorem fdif_unlike {k k' : Fo} {j x y x' y' : Nat} {s v s' v' : Int} {kk kk' : Fo} (h : fdrop j k = .node x y (s, v) kk (fdrop (j + 1) k)) (h' : fdrop j k' = .node x' y' (s', v') kk' (fdrop (j + 1) k')) (ht : teq s v kk s' v' kk' = false) :
    fdif (fdrop j k) (fdrop j k') = 0 := by
  rw [h, h', fdif, if_neg (by rw [ht]; simp)]

/-- What the first difference says of two terms of one sign. -/
theorem dif_main {rk : Int → Nat} {s v : Int} {k : Fo} {v' : Int} {k' : Fo} (hs : s ≠ 0) (h : Shape s v k) (h' : Shape s v' k') :
    flen k = flen k' ∧ ((fdif k k' = flen k ∧ ¬ Gt rk (tmOf s v k) (tmOf s v' k')) ∨
      (fdif k k' < flen k ∧ ∃ x y, (ftm k)[fdif k k']? = some x ∧ (ftm k')[fdif k k']? = some y ∧ (Gt rk x y → (Gt rk (tmOf s v k) (tmOf s v' k') ↔ All rk (tmOf s v k) ((ftm k').drop (fdif k k' + 1)))) ∧
        (¬ Gt rk x y → (Gt rk (tmOf s v k) (tmOf s v' k') ↔ Reach rk ((ftm k).drop (fdif k k' + 1)) (tmOf s v' k'))))) := by
  cases h with
  | var => exact absurd rfl hs
  | leaf _ h1 =>
    cases h' with
    | var => exact absurd rfl hs
    | leaf => exact ⟨rfl, .inl ⟨rfl, Gt.ne⟩⟩
    | one => omega
    | two => omega
  | one x y p k ho hk =>
    cases h' with
    | leaf _ h1 => omega
    | one x' y' p' k' ho' hk' =>
      refine ⟨rfl, ?_⟩
      have ht := tm_teq (shape_of ho hk) (shape_of ho' hk')
      rw [tm_one, tm_one]
      cases hte : teq p.1 p.2 k p'.1 p'.2 k' with
      | true =>
        refine .inl ⟨by simp [fdif, hte, flen], ?_⟩
        rw [ht.1 hte]
        exact Gt.ne
      | false =>
        have hne : tmOf p.1 p.2 k ≠ tmOf p'.1 p'.2 k' := fun e => by rw [ht.2 e] at hte; cases hte
        refine .inr ⟨by simp [fdif, hte, flen], tmOf p.1 p.2 k, tmOf p'.1 p'.2 k', by simp [fdif, hte, ftm]; rfl, by simp [fdif, hte, ftm]; rfl, fun hg => ?_, fun hg => ?_⟩
        · rw [gt_one hne]
          simp only [fdif, hte, ftm]
          exact ⟨fun _ => all_nil, fun _ => hg⟩
        · rw [gt_one hne]
          simp only [fdif, hte, ftm]
          exact ⟨fun h => absurd h hg, fun h => absurd h reach_nil⟩
  | two x y p k x2 y2 p2 k2 ho hk ho2 hk2 =>
    cases h' with
    | leaf _ h1 => omega
    | two x' y' p' k' x2' y2' p2' k2' ho' hk' ho2' hk2' =>
      refine ⟨rfl, ?_⟩
      have ht := tm_teq (shape_of ho hk) (shape_of ho' hk')
      have ht2 := tm_teq (shape_of ho2 hk2) (shape_of ho2' hk2')
      rw [tm_two, tm_two]
      cases hte : teq p.1 p.2 k p'.1 p'.2 k' with
      | true =>
        have e1 := ht.1 hte
        cases hte2 : teq p2.1 p2.2 k2 p2'.1 p2'.2 k2' with
        | true =>
          refine .inl ⟨by simp [fdif, hte, hte2, flen], ?_⟩
          rw [e1, ht2.1 hte2]
          exact Gt.ne
        | false =>
          have hne : tmOf p2.1 p2.2 k2 ≠ tmOf p2'.1 p2'.2 k2' := fun e => by rw [ht2.2 e] at hte2; cases hte2
          refine .inr ⟨by simp [fdif, hte, hte2, flen], tmOf p2.1 p2.2 k2, tmOf p2'.1 p2'.2 k2', by simp [fdif, hte, hte2, ftm]; rfl, by simp [fdif, hte, hte2, ftm]; rfl, fun hg => ?_, fun hg => ?_⟩
          · rw [e1]
            simp only [fdif, hte, hte2, ftm]
            exact ⟨fun _ => all_nil, fun _ => gt_two_snd hg⟩
          · rw [e1]
            simp only [fdif, hte, hte2, ftm]
            exact ⟨fun h => absurd h (gt_two_not hne hg), fun h => absurd h reach_nil⟩
      | false =>
        have hne : tmOf p.1 p.2 k ≠ tmOf p'.1 p'.2 k' := fun e => by rw [ht.2 e] at hte; cases hte
        refine .inr ⟨by simp [fdif, hte, flen], tmOf p.1 p.2 k, tmOf p'.1 p'.2 k', by simp [fdif, hte, ftm]; rfl, by simp [fdif, hte, ftm]; rfl, fun hg => ?_, fun hg => ?_⟩
        · rw [gt_two_more hg]
          simp only [fdif, hte, ftm]
          show _ ↔ All rk _ [tmOf p2'.1 p2'.2 k2']
          rw [all_cons]
          exact ⟨fun h => ⟨h, all_nil⟩, fun h => h.1⟩
        · rw [gt_two_less hne hg]
          simp only [fdif, hte, ftm]
          exact Iff.rfl

/-- Where a sign stands. -/
def rkN (xs : List Int) (s : Int) : Nat := xs.idxOf s
end Go.Proofs.YtiinmlagcbjloaaGreat

/-! P3: - placesOf: the positions of a node. -/
namespace Go.Proofs.YtiinmlagcbjloaaGreat
open Go.RowKit Go.Deep

theorem fpl_len : ∀ (k : Fo) (i : Nat), (fpl k i).length = fsz k
  | .nil, _ => rfl
  | .node _ _ _ k r, i => by simp only [fpl, fsz, List.length_append, List.length_map, List.length_cons, fpl_len k 0, fpl_len r (i + 1)]; omega
theorem places_len (k : Fo) : (places k).length = 1 + fsz k := by simp [places, fpl_len]; omega
theorem fpl_deep : ∀ (k : Fo) (i : Nat) (p : List Int), p ∈ fpl k i → p.length ≤ fsz k
  | .nil, _, _, h => by simp [fpl] at h
  | .node _ _ _ k r, i, p, h => by
    simp only [fpl, List.map_cons, List.cons_append, List.mem_cons, List.mem_append, List.mem_map] at h
    rcases h with rfl | ⟨q, hq, rfl⟩ | h
    · simp [fsz]
    · have := fpl_deep k 0 q hq; simp only [fsz, List.length_cons]; omega
    · have := fpl_deep r (i + 1) p h; simp only [fsz]; omega
theorem places_deep {k : Fo} {p : List Int} (h : p ∈ places k) : p.length ≤ fsz k := by
  simp only [places, List.mem_cons] at h
  rcases h with rfl | h
  · exact Nat.zero_le _
  · exact fpl_deep k 0 p h

def PlPost (k : Fo) (w : World) (e : Ending) (w' : World) : Prop :=
  ∃ A C, e = .returned (.slice A (places k).length C) ∧ Below w.heap.size w w' ∧ RSl w' w.heap.size w'.heap.size A (places k)

/-- The first row: the root's own. -/
theorem rown_start {w w3 : World} (hb : Below ((w.alloc (.cells #[] 3)).alloc (.cells #[.slice (some ⟨w.heap.size, 0, none⟩) 0 0] 23)).heap.size ((w.alloc (.cells #[] 3)).alloc (.cells #[.slice (some ⟨w.heap.size, 0, none⟩) 0 0] 23)) w3) :
    ROwn w3 w.heap.size [[]] (some ⟨w.heap.size + 1, 0, none⟩) 1 := by
  refine ROwn.low (w := (w.alloc (.cells #[] 3)).alloc (.cells #[.slice (some ⟨w.heap.size, 0, none⟩) 0 0] 23)) ⟨[.slice (some ⟨w.heap.size, 0, none⟩) 0 0], ⟨rfl, .inr ⟨w.heap.size + 1, 1, #[.slice (some ⟨w.heap.size, 0, none⟩) 0 0], rfl, by omega, ?_, Nat.le_refl _, by decide, rfl, rfl⟩⟩, fun i r hr => ?_⟩ hb (Nat.le_refl _)
  · have := heap_alloc_new (w.alloc (.cells #[] 3)) (.cells #[.slice (some ⟨w.heap.size, 0, none⟩) 0 0] 23)
    simpa using this
  · have hi : i = 0 := by
      have := (List.getElem?_eq_some_iff.1 hr).1
      simp at this
      exact this
    subst hi
    simp at hr
    subst hr
    exact ⟨_, 0, w.heap.size, w.heap.size, rfl, ⟨.inl rfl, Nat.zero_le _⟩, Nat.le_refl _, by simp; omega, fun g hg => .inr (by simp [Value.ownBlock] at hg; omega)⟩

/-- What holds at the head of the inner loop: the rows so far; the rows inn that are gone through, which nothing writes. -/
structure PlIn (w : World) (base : Nat) (L H : Nat) (Ain : Option Addr) (inn rows : List (List Int)) (A : Option Addr) (C : Nat) (wr : World) : Prop where
  below : Below w.heap.size w wr
  own : ROwn wr base rows A C
  inn : RSl wr L H Ain inn
  top : H ≤ wr.heap.size
  apart : ∀ g, (Value.slice A rows.length C).ownBlock = some g → g < L ∨ H ≤ g

theorem PlIn.step {w wr w4 w5 : World} {base L H : Nat} {Ain : Option Addr} {inn rows : List (List Int)} {A A' A4 : Option Addr} {C C' C4 : Nat} {r : List Int} {blk : Obj} {xs : List Value} (h : PlIn w base L H Ain inn rows A C wr) (hw : w.heap.size ≤ base) (hbase : base ≤ wr.heap.size)
    (hown : wr.ownsRow base 23 1 (.slice A rows.length C) rows.length xs)
    (hall : ∀ (i : Nat) (r : List Int), rows[i]? = some r → ∃ a' c' L H, xs[i]? = some (Value.slice a' r.length c') ∧ ISc wr L H a' c' r ∧ base ≤ L ∧ H ≤ wr.heap.size ∧ (∀ g, (Value.slice A rows.length C).ownBlock = some g → g < L ∨ H ≤ g))
    (hb4 : Below wr.heap.size wr w4) (hi4 : ISc w4 wr.heap.size w4.heap.size A4 C4 r) (hown5 : w5.ownsRow base 23 1 (.slice A' (rows.length + 1) C') (rows.length + 1) (xs ++ [.slice A4 r.length C4]))
    (hgrow : (w4.alloc blk).grownBy w5 (Value.slice A rows.length C).ownBlock) (hat : (Value.slice A' (rows.length + 1) C').ownBlock = (Value.slice A rows.length C).ownBlock ∨ (Value.slice A' (rows.length + 1) C').ownBlock = some (w4.heap.size + 1)) :
    PlIn w base L H Ain inn (rows ++ [r]) A' C' w5 := by
  have hs4 := hb4.size
  have hs5 := hgrow.size
  simp at hs5
  have htop := h.top
  refine ⟨?_, ROwn.append hown hall hown5 hb4 hi4 hbase hgrow hat, h.inn.same (fun b h1 h2 => ?_), by omega, fun g hg => ?_⟩
  · exact ((h.below.trans (hb4.mono (by omega))).alloc (by omega) _).grown hgrow (by simp; omega) (fun g hg => by have := (hown.lt g hg).1; omega)
  · rw [hgrow.block b (by simp; omega) (fun e => by have := h.apart b e.symm; omega), Below.heap_alloc _ _ _ (by omega), hb4.block b (by omega)]
  · have hl : (rows ++ [r]).length = rows.length + 1 := by simp
    rw [hl] at hg
    rcases hat with h1 | h1
    · exact h.apart g (by rw [← h1]; exact hg)
    · rw [h1] at hg; simp at hg; omega

/-- A new row was made and appended to: nothing old has turned. -/
theorem pl_low {w w7 : World} {o : Obj} {n : Nat} {C : Nat} (h : (w.alloc o).grownBy w7 (Value.slice (some ⟨w.heap.size, 0, none⟩) n C).ownBlock) : Below w.heap.size w w7 :=
  ((Below.refl _ _).alloc (Nat.le_refl _) o).grown h (by simp) (fun g hg => by simp [Value.ownBlock] at hg; omega)

theorem rsl_at {w : World} {lo B : Nat} {a : Option Addr} {rows : List (List Int)} {i : Nat} (h : RSl w lo B a rows) (hi : i < rows.length) :
    ∃ b o a' c' r, a = some ⟨b, o, none⟩ ∧ lo ≤ b ∧ b < B ∧ rows[i]? = some r ∧ w.cell? ⟨b, o + i, none⟩ = some (.slice a' r.length c') ∧ ISl w lo B a' r := by
  rcases h with rfl | ⟨b, o, e, h1, h2, h3⟩
  · simp at hi
  · have hr : rows[i]? = some rows[i] := List.getElem?_eq_getElem hi
    obtain ⟨a', c', hc, hs⟩ := h3 i _ hr
    exact ⟨b, o, a', c', _, e, h1, h2, hr, hc, hs.1⟩
theorem rsl_at2 {w : World} {lo B : Nat} {a : Option Addr} {rows : List (List Int)} {i : Nat} (h : RSl w lo B a rows) (hi : i < rows.length) :
    ∃ b o a' c' r, a = some ⟨b, o, none⟩ ∧ lo ≤ b ∧ b < B ∧ rows[i]? = some r ∧ w.cell? ⟨b, o + i, none⟩ = some (.slice a' r.length c') ∧ ISc w lo B a' c' r := by
  rcases h with rfl | ⟨b, o, e, h1, h2, h3⟩
  · simp at hi
  · have hr : rows[i]? = some rows[i] := List.getElem?_eq_getElem hi
    obtain ⟨a', c', hc, hs⟩ := h3 i _ hr
    exact ⟨b, o, a', c', _, e, h1, h2, hr, hc, hs⟩

end Go.Proofs.YtiinmlagcbjloaaGreat
