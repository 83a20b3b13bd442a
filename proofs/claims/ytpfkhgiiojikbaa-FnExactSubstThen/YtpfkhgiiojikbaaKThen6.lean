/- Several texts in one: P2, S3, P3. -/
import Derived.Test.YtpfkhgiiojikbaaKThen5
import Derived.Laws.OwnMore

/-! P2: kidsOf; rows of the call's own. -/
namespace Go.Proofs.Ytpfkhgiiojikbaa
open Go.RowKit Go.Deep

def KidsPost (B : Nat) (k : Fo) (w : World) (e : Ending) (w' : World) : Prop := ∃ a c, e = .returned (.slice a (flen k) c) ∧ Below w.heap.size w w' ∧ NSl w 0 B a k

theorem assert_var (v : Int) (w : World) : (Instr.typeAssert (.iface 114 (.int .i64 v)) 77 131 true).run Try.prog w = .ok (.tuple #[.agg #[.int .i64 0, .slice none 0 0], .bool false]) w := by kernel_rfl
theorem assert_sym (s : Int) (a : Option Addr) (n c : Nat) (w : World) : (Instr.typeAssert (.iface 131 (.agg #[.int .i64 s, .slice a n c])) 77 131 true).run Try.prog w = .ok (.tuple #[.agg #[.int .i64 s, .slice a n c], .bool true]) w := by kernel_rfl

set_option maxRecDepth 100000 in
set_option maxHeartbeats 400000 in
theorem kidsOf_any (s v : Int) (k : Fo) (nv : Value) (B : Nat) (w : World) (hn : NodeIs w 0 B nv s v k) : Calls Try.prog 98 #[nv] w (KidsPost B k w) := by
  have hta := assert_var
  have htb := assert_sym
  rcases hn with ⟨rfl, rfl, rfl⟩ | ⟨hs, a, c, rfl, hn⟩
  · go_enter Try.func98, Try.ntmps98
    go_wp2_with fail
    go_ret
    exact ⟨none, 0, rfl, Below.refl _ _, .inl rfl⟩
  · have HN := Lib.hid hn
    clear hn
    go_enter Try.func98, Try.ntmps98
    go_wp2_with fail
    go_ret
    exact ⟨a, c, rfl, (Below.refl _ _).alloc (Nat.le_refl _) _, HN.out⟩

/-- The slice (A, m, C) is a row of rows of the call's own, made from block base on; no row below it lies in its own block. -/
def ROwn (w : World) (base : Nat) (rows : List (List Int)) (A : Option Addr) (C : Nat) : Prop :=
  ∃ xs : List Value, w.ownsRow base 52 1 (.slice A rows.length C) rows.length xs ∧ ∀ (i : Nat) (r : List Int), rows[i]? = some r → ∃ a' c' L H, xs[i]? = some (Value.slice a' r.length c') ∧ ISc w L H a' c' r ∧ base ≤ L ∧ H ≤ w.heap.size ∧
    (∀ g, (Value.slice A rows.length C).ownBlock = some g → g < L ∨ H ≤ g)

theorem ROwn.sl {w : World} {base : Nat} {rows : List (List Int)} {A : Option Addr} {C : Nat} (h : ROwn w base rows A C) : RSl w base w.heap.size A rows := by
  obtain ⟨xs, hown, hall⟩ := h
  rcases Nat.eq_zero_or_pos rows.length with h0 | h0
  · exact .inl (List.eq_nil_of_length_eq_zero h0)
  · obtain ⟨g, cap, hv, hb, hlt⟩ := hown.form h0
    have hA : A = some ⟨g, 0, none⟩ := by simp only [Value.slice.injEq] at hv; exact hv.1
    have hc := hown.cells (g := g) (by rw [hA]; rfl)
    have ha : ∀ n, (⟨g, 0, none⟩ : Addr).add n = ⟨g, 0 + n, none⟩ := fun n => by unfold Addr.add; split <;> simp_all
    refine .inr ⟨g, 0, hA, hb, hlt, fun i r hr => ?_⟩
    obtain ⟨a', c', L, H, hx, hi, hL, hH, _⟩ := hall i r hr
    exact ⟨a', c', by have := hc _ _ hx; rwa [ha] at this, hi.mono hL hH⟩
theorem ROwn.low {w w2 : World} {base base' : Nat} {rows : List (List Int)} {A : Option Addr} {C : Nat} (h : ROwn w base rows A C) (hb : Below w.heap.size w w2) (hbase : base' ≤ base) : ROwn w2 base' rows A C := by
  obtain ⟨xs, hown, hall⟩ := h
  refine ⟨xs, own_base hbase (own_low hb hown), fun i r hr => ?_⟩
  obtain ⟨a', c', L, H, hx, hi, hL, hH, hg⟩ := hall i r hr
  exact ⟨a', c', L, H, hx, hi.same (fun b _ hb' => hb.block b (by omega)), by omega, Nat.le_trans hH hb.size, hg⟩
/-- One more row is appended: w: where the rows stood; w2: where the new one lies too; blk: the block that shows it to append. -/
theorem ROwn.append {w w2 w3 : World} {base : Nat} {rows : List (List Int)} {A A' : Option Addr} {C C' : Nat} {blk : Obj} {r : List Int} {a2 : Option Addr} {c2 : Nat} {xs : List Value} (hown : w.ownsRow base 52 1 (.slice A rows.length C) rows.length xs)
    (hall : ∀ (i : Nat) (r : List Int), rows[i]? = some r → ∃ a' c' L H, xs[i]? = some (Value.slice a' r.length c') ∧ ISc w L H a' c' r ∧ base ≤ L ∧ H ≤ w.heap.size ∧ (∀ g, (Value.slice A rows.length C).ownBlock = some g → g < L ∨ H ≤ g))
    (hown3 : w3.ownsRow base 52 1 (.slice A' (rows.length + 1) C') (rows.length + 1) (xs ++ [.slice a2 r.length c2])) (hb2 : Below w.heap.size w w2) (hi2 : ISc w2 w.heap.size w2.heap.size a2 c2 r) (hbase : base ≤ w.heap.size)
    (hgrow : (w2.alloc blk).grownBy w3 (Value.slice A rows.length C).ownBlock) (hat : (Value.slice A' (rows.length + 1) C').ownBlock = (Value.slice A rows.length C).ownBlock ∨ (Value.slice A' (rows.length + 1) C').ownBlock = some (w2.heap.size + 1)) : ROwn w3 base (rows ++ [r]) A' C' := by
  have hs2 := hb2.size
  have hs3 := hgrow.size
  simp at hs3
  have hxl : xs.length = rows.length := by have := hown.1; omega
  have hl : (rows ++ [r]).length = rows.length + 1 := by simp
  rw [ROwn, hl]
  refine ⟨_, hown3, fun i r' hr => ?_⟩
  have hcond : ∀ {L H : Nat}, (∀ g, (Value.slice A rows.length C).ownBlock = some g → g < L ∨ H ≤ g) → H ≤ w2.heap.size → ∀ g', (Value.slice A' (rows.length + 1) C').ownBlock = some g' → g' < L ∨ H ≤ g' := fun hg hH g' hg' => by
    rcases hat with h1 | h1
    · exact hg g' (by rw [← h1]; exact hg')
    · rw [h1] at hg'; simp at hg'; omega
  by_cases hi : i < rows.length
  · rw [List.getElem?_append_left hi] at hr
    obtain ⟨a', c', L, H, hx, hsl, hL, hH, hg⟩ := hall i r' hr
    refine ⟨a', c', L, H, by rw [List.getElem?_append_left (by omega)]; exact hx, hsl.same (fun b h1 h2 => ?_), hL, by omega, hcond hg (by omega)⟩
    rw [hgrow.block b (by simp; omega) (fun e => by have := hg b e.symm; omega), Below.heap_alloc _ _ _ (by omega), hb2.block b (by omega)]
  · have hir : i = rows.length := by
      have := (List.getElem?_eq_some_iff.1 hr).1
      simp at this
      omega
    subst hir
    simp at hr
    subst hr
    refine ⟨a2, c2, w.heap.size, w2.heap.size, by rw [← hxl]; simp, hi2.same (fun b h1 h2 => ?_), hbase, by omega, hcond (fun g hg => .inl (hown.lt _ hg).2) (Nat.le_refl _)⟩
    rw [hgrow.block b (by simp; omega) (fun e => by have := (hown.lt b e.symm).2; omega), Below.heap_alloc _ _ _ (by omega)]

/-- Numbers that a row of the call's own holds. -/
theorem isl_of_own {w : World} {base : Nat} {A : Option Addr} {C n : Nat} {xs : List Int} (h : w.ownsRow base 3 1 (.slice A n C) n (xs.map (Value.int .i64))) : ISl w base w.heap.size A xs := by
  have hl : xs.length = n := by have := h.1; simpa using this
  rcases Nat.eq_zero_or_pos n with h0 | h0
  · exact .inl (List.eq_nil_of_length_eq_zero (by omega))
  · obtain ⟨g, cap, hv, hb, hlt⟩ := h.form h0
    have hA : A = some ⟨g, 0, none⟩ := by simp only [Value.slice.injEq] at hv; exact hv.1
    have hc := h.cells (g := g) (by rw [hA]; rfl)
    have ha : ∀ n, (⟨g, 0, none⟩ : Addr).add n = ⟨g, 0 + n, none⟩ := fun n => by unfold Addr.add; split <;> simp_all
    refine .inr ⟨g, 0, hA, hb, hlt, fun i x hx => ?_⟩
    have := hc i (.int .i64 x) (by simp [hx])
    rwa [ha] at this
/-- The source of an append of numbers. -/
theorem own_cap {w : World} {base : Nat} {A : Option Addr} {C n e : Nat} {xs : List Value} (h : w.ownsRow base e 1 (.slice A n C) n xs) : n ≤ C := by
  rcases h.2 with ⟨_, h2⟩ | ⟨g, cap, cur, h3, _, _, h6, _⟩
  · omega
  · simp only [Value.slice.injEq] at h3
    omega
theorem isc_of_own {w : World} {base : Nat} {A : Option Addr} {C n : Nat} {xs : List Int} (h : w.ownsRow base 3 1 (.slice A n C) n (xs.map (Value.int .i64))) : ISc w base w.heap.size A C xs :=
  ⟨isl_of_own h, by have := own_cap h; have := h.1; simp at this; omega⟩
theorem src_of_isl {w : World} {lo B : Nat} {a : Option Addr} {xs : List Int} (h : ISl w lo B a xs) (hn : a = none → xs = []) : Src w 1 a xs.length (xs.map (Value.int .i64)) := by
  refine ⟨by simp, ?_⟩
  cases a with
  | none => exact .inl ⟨rfl, by rw [hn rfl]; rfl⟩
  | some ad =>
    refine .inr ⟨ad, rfl, fun j u hu => ?_⟩
    rcases h with h | ⟨b, o, e, h1, h2, h3⟩
    · rw [h] at hu; simp at hu
    · have ha : ad = ⟨b, o, none⟩ := by simpa using e
      subst ha
      rw [List.getElem?_map, Option.map_eq_some_iff] at hu
      obtain ⟨x, hx, rfl⟩ := hu
      rw [show (⟨b, o, none⟩ : Addr).add j = ⟨b, o + j, none⟩ from by unfold Addr.add; split <;> simp_all]
      exact h3 j x hx
theorem isl_none {w : World} {lo B : Nat} {xs : List Int} (h : ISl w lo B none xs) : xs = [] := by
  rcases h with h | ⟨b, o, e, _⟩
  · exact h
  · cases e
end Go.Proofs.Ytpfkhgiiojikbaa

/-! S3: What is put in: plain; nodes that stay. valueOf, symbolOf. -/
namespace Go.Proofs.Ytpfkhgiiojikbaa
open Go.RowKit Go.Deep Go.Maps

/-- What variables stand for put into terms of a row. -/
def fsub (σ : Int → Option (Int × Int × Fo)) : Fo → Fo
  | .nil => .nil
  | .node x y p k r => if p.1 = 0 then (match σ p.2 with
      | some t => .node x y (t.1, t.2.1) t.2.2 (fsub σ r)
      | none => .node x y p k (fsub σ r)) else .node x y p (fsub σ k) (fsub σ r)
def tsub (σ : Int → Option (Int × Int × Fo)) (s v : Int) (k : Fo) : Int × Int × Fo := if s = 0 then (σ v).getD (s, v, k) else (s, v, fsub σ k)
theorem fsub_len (σ : Int → Option (Int × Int × Fo)) : ∀ k : Fo, flen (fsub σ k) = flen k
  | .nil => rfl
  | .node _ _ p k r => by
    simp only [fsub]
    split
    · split <;> simp only [flen, fsub_len σ r]
    · simp only [flen, fsub_len σ r]
theorem fsub_at (σ : Int → Option (Int × Int × Fo)) : ∀ (i : Nat) (k : Fo) {x y : Nat} {s v : Int} {kk r : Fo}, fdrop i k = .node x y (s, v) kk r → fdrop i (fsub σ k) = .node x y ((tsub σ s v kk).1, (tsub σ s v kk).2.1) (tsub σ s v kk).2.2 (fdrop (i + 1) (fsub σ k))
  | 0, .nil, _, _, _, _, _, _, h => by simp [fdrop] at h
  | 0, .node _ _ p k r, x, y, s, v, kk, r', h => by
    simp only [fdrop, BT.node.injEq] at h
    obtain ⟨rfl, rfl, rfl, rfl, _⟩ := h
    simp only [fsub, tsub]
    by_cases e : s = 0
    · simp only [if_pos e]
      cases σ v with
      | none => simp [fdrop]
      | some t => simp [fdrop]
    · simp only [if_neg e]
      simp [fdrop]
  | _ + 1, .nil, _, _, _, _, _, _, h => by simp [fdrop] at h
  | n + 1, .node _ _ p k r, x, y, s, v, kk, r', h => by
    simp only [fdrop] at h
    have := fsub_at σ n r h
    simp only [fsub]
    split
    · split <;> simp only [fdrop, this]
    · simp only [fdrop, this]

/-- What stays where all cells but those of no node stay. -/
theorem NRow.keepN {w w' : World} {lo B : Nat} (hk : ∀ q x, w.cell? q = some x → x ≠ .nilIface → w'.cell? q = some x) : ∀ (k : Fo) (b o : Nat), NRow w lo B k b o → NRow w' lo B k b o
  | .nil, _, _, _ => trivial
  | .node _ _ p k r, b, o, ⟨hl, h0, ⟨val, h1, h2⟩, h5⟩ => by
    have hne : val ≠ .nilIface := by
      rcases h2 with ⟨_, _, rfl⟩ | ⟨_, a, c, rfl, _⟩ <;> (intro e; cases e)
    refine ⟨hl, h0, ⟨val, hk _ _ h1 hne, ?_⟩, NRow.keepN hk r b (o + 1) h5⟩
    rcases h2 with h2 | ⟨e, a, c, e2, h3⟩
    · exact .inl h2
    · refine .inr ⟨e, a, c, e2, ?_⟩
      rcases h3 with h3 | ⟨b', o', e3, h3⟩
      · exact .inl h3
      · exact .inr ⟨b', o', e3, NRow.keepN hk k b' o' h3⟩
theorem NodeIs.keepN {w w' : World} {lo B : Nat} {val : Value} {s v : Int} {k : Fo} (hk : ∀ q x, w.cell? q = some x → x ≠ .nilIface → w'.cell? q = some x) (h : NodeIs w lo B val s v k) : NodeIs w' lo B val s v k := by
  rcases h with h | ⟨hs, a, c, e, h⟩
  · exact .inl h
  · refine .inr ⟨hs, a, c, e, ?_⟩
    rcases h with h | ⟨b, o, e2, h⟩
    · exact .inl h
    · exact .inr ⟨b, o, e2, h.keepN hk⟩
theorem nrow_of_allS {w : World} {lo B : Nat} : ∀ (k : Fo) (b o : Nat), lo ≤ b → b < B →
    (∀ i, i < flen k → ∃ x y s v kk val, fdrop i k = .node x y (s, v) kk (fdrop (i + 1) k) ∧ w.cell? ⟨b, o + i, none⟩ = some val ∧ NodeIs w lo B val s v kk) → NRow w lo B k b o
  | .nil, _, _, _, _, _ => trivial
  | .node x y p kk r, b, o, h1, h2, h => by
    obtain ⟨x', y', s, v, kk', val, e, c0, hn⟩ := h 0 (by simp [flen])
    simp only [fdrop, BT.node.injEq] at e
    obtain ⟨_, _, rfl, rfl, _⟩ := e
    refine ⟨h1, h2, ⟨val, by simpa using c0, hn⟩, nrow_of_allS r b (o + 1) h1 h2 fun i hi => ?_⟩
    obtain ⟨x', y', s', v', kk', val', e, c0, hn⟩ := h (i + 1) (by simp [flen]; omega)
    exact ⟨x', y', s', v', kk', val', e, by rw [show o + 1 + i = o + (i + 1) from by omega]; exact c0, hn⟩

theorem zeroE (w : World) : (zeroValue 77).run Try.prog w = .ok .nilIface w := by kernel_rfl

def NvPost (s v : Int) (k : Fo) (w : World) (e : Ending) (w' : World) : Prop := ∃ nv, e = .returned nv ∧ Below w.heap.size w w' ∧ NodeIs w' 0 w'.heap.size nv s v k

set_option maxRecDepth 100000 in
set_option maxHeartbeats 1000000 in
theorem valueOf_any (bs : List Bd) (b : Nat) (x : Int) (w : World) (hm : MapIs w b bs) (hw : (Lit.int .i64 x).wf = true) :
    Calls Try.prog 82 #[.map (some b), .int .i64 x] w (NvPost (tsub (sv bs) 0 x .nil).1 (tsub (sv bs) 0 x .nil).2.1 (tsub (sv bs) 0 x .nil).2.2 w) := by
  obtain ⟨n, D, hown, hn, hsv⟩ := hm
  have HOWN := Lib.hid hown
  have HKEY := Lib.hid (key_of hw)
  have hx := hsv x hw
  have hz := zeroE
  clear hown hsv
  cases hs : sv bs x with
  | none =>
    have hh := hx.1 hs
    have HT : Hid (tsub (sv bs) 0 x .nil = (0, x, .nil)) := by simp [Hid, tsub, hs]
    clear hx hs
    go_enter Try.func82, Try.ntmps82
    go_wp2_with (at_lookup; refine wpList_lookup_own_ok (H := Value) _ rfl _ _ 69 rfl 114 77 law underM rdV (zeroE _) (.held .nilIface) [] rfl b n D rfl HOWN.out (.int .i64 x) (.int .i64 x) rfl HKEY.out ?_; intro nv ps hnv; rw [hh]; clear hnv)
    go_ret
    rw [HT.out]
    exact ⟨_, rfl, Below.refl _ _, .inl ⟨rfl, rfl, rfl⟩⟩
  | some t =>
    obtain ⟨s', v', k'⟩ := t
    obtain ⟨hh, nv0, hat, hnode⟩ := hx.2 s' v' k' hs
    have HT : Hid (tsub (sv bs) 0 x .nil = (s', v', k')) := by simp [Hid, tsub, hs]
    have HNODE := Lib.hid hnode
    have HAT := Lib.hid hat
    clear hx hs hnode hat
    go_enter Try.func82, Try.ntmps82
    go_wp2_with (at_lookup; refine wpList_lookup_own_ok (H := Value) _ rfl _ _ 69 rfl 114 77 law underM rdV (zeroE _) (.held .nilIface) [] rfl b n D rfl HOWN.out (.int .i64 x) (.int .i64 x) rfl HKEY.out ?_; intro nv ps hnv; rw [hh]; have HE : Hid (nv = nv0) := (by have := HAT.out; simp only [rdV, Option.some.injEq, Prod.mk.injEq] at hnv; rw [this] at hnv; exact DataW.held.inj hnv.1); clear hnv)
    go_ret
    rw [HT.out]
    exact ⟨nv, rfl, Below.refl _ _, by rw [HE.out]; exact HNODE.out⟩

set_option maxRecDepth 100000 in
theorem symbolOf_any (s : Int) (a : Option Addr) (n c : Nat) (w : World) :
    Calls Try.prog 83 #[.int .i64 s, .slice a n c] w fun e w' => e = .returned (.iface 131 (.agg #[.int .i64 s, .slice a n c])) ∧ w' = w := by
  go_enter Try.func83, Try.ntmps83
  go_wp2_with fail
  go_ret
  exact ⟨rfl, rfl⟩
end Go.Proofs.Ytpfkhgiiojikbaa

/-! P3: - placesOf: the positions of a node. -/
namespace Go.Proofs.Ytpfkhgiiojikbaa
open Go.RowKit Go.Deep

theorem fpl_len : ∀ (k : Fo) (i : Nat), (fpl k i).length = fsz k
  | .nil, _ => rfl
  | .node _ _ _ k r, i => by simp only [fpl, fsz, List.length_append, List.length_map, List.length_cons, fpl_len k 0, fpl_len r (i + 1)]; omega
theorem places_len (k : Fo) : (places k).length = 1 + fsz k := by simp [places, fpl_len]; omega
theorem fpl_deep : ∀ (k : Fo) (i : Nat) (p : List Int), p ∈ fpl k i → p.length ≤ fsz k
  | .nil, _, _, h => by simp [fpl] at h
  | .node _ _ _ k r, i, p, h => by
    simp only [fpl, List.map_cons, List.cons_append, List.mem_cons, List.mem_append, List.mem_map] at h
    rcases h with rfl | ⟨q, hq, rfl⟩ | h
    · simp [fsz]
    · have := fpl_deep k 0 q hq; simp only [fsz, List.length_cons]; omega
    · have := fpl_deep r (i + 1) p h; simp only [fsz]; omega
theorem places_deep {k : Fo} {p : List Int} (h : p ∈ places k) : p.length ≤ fsz k := by
  simp only [places, List.mem_cons] at h
  rcases h with rfl | h
  · exact Nat.zero_le _
  · exact fpl_deep k 0 p h

def PlPost (k : Fo) (w : World) (e : Ending) (w' : World) : Prop :=
  ∃ A C, e = .returned (.slice A (places k).length C) ∧ Below w.heap.size w w' ∧ RSl w' w.heap.size w'.heap.size A (places k)

/-- The first row: the root's own. -/
theorem rown_start {w w3 : World} (hb : Below ((w.alloc (.cells #[] 3)).alloc (.cells #[.slice (some ⟨w.heap.size, 0, none⟩) 0 0] 52)).heap.size ((w.alloc (.cells #[] 3)).alloc (.cells #[.slice (some ⟨w.heap.size, 0, none⟩) 0 0] 52)) w3) :
    ROwn w3 w.heap.size [[]] (some ⟨w.heap.size + 1, 0, none⟩) 1 := by
  refine ROwn.low (w := (w.alloc (.cells #[] 3)).alloc (.cells #[.slice (some ⟨w.heap.size, 0, none⟩) 0 0] 52)) ⟨[.slice (some ⟨w.heap.size, 0, none⟩) 0 0], ⟨rfl, .inr ⟨w.heap.size + 1, 1, #[.slice (some ⟨w.heap.size, 0, none⟩) 0 0], rfl, by omega, ?_, Nat.le_refl _, by decide, rfl, rfl⟩⟩, fun i r hr => ?_⟩ hb (Nat.le_refl _)
  · have := heap_alloc_new (w.alloc (.cells #[] 3)) (.cells #[.slice (some ⟨w.heap.size, 0, none⟩) 0 0] 52)
    simpa using this
  · have hi : i = 0 := by
      have := (List.getElem?_eq_some_iff.1 hr).1
      simp at this
      exact this
    subst hi
    simp at hr
    subst hr
    exact ⟨_, 0, w.heap.size, w.heap.size, rfl, ⟨.inl rfl, Nat.zero_le _⟩, Nat.le_refl _, by simp; omega, fun g hg => .inr (by simp [Value.ownBlock] at hg; omega)⟩

/-- What holds at the head of the inner loop: the rows so far; the rows inn that are gone through, which nothing writes. -/
structure PlIn (w : World) (base : Nat) (L H : Nat) (Ain : Option Addr) (inn rows : List (List Int)) (A : Option Addr) (C : Nat) (wr : World) : Prop where
  below : Below w.heap.size w wr
  own : ROwn wr base rows A C
  inn : RSl wr L H Ain inn
  top : H ≤ wr.heap.size
  apart : ∀ g, (Value.slice A rows.length C).ownBlock = some g → g < L ∨ H ≤ g

theorem PlIn.step {w wr w4 w5 : World} {base L H : Nat} {Ain : Option Addr} {inn rows : List (List Int)} {A A' A4 : Option Addr} {C C' C4 : Nat} {r : List Int} {blk : Obj} {xs : List Value} (h : PlIn w base L H Ain inn rows A C wr) (hw : w.heap.size ≤ base) (hbase : base ≤ wr.heap.size)
    (hown : wr.ownsRow base 52 1 (.slice A rows.length C) rows.length xs)
    (hall : ∀ (i : Nat) (r : List Int), rows[i]? = some r → ∃ a' c' L H, xs[i]? = some (Value.slice a' r.length c') ∧ ISc wr L H a' c' r ∧ base ≤ L ∧ H ≤ wr.heap.size ∧ (∀ g, (Value.slice A rows.length C).ownBlock = some g → g < L ∨ H ≤ g))
    (hb4 : Below wr.heap.size wr w4) (hi4 : ISc w4 wr.heap.size w4.heap.size A4 C4 r) (hown5 : w5.ownsRow base 52 1 (.slice A' (rows.length + 1) C') (rows.length + 1) (xs ++ [.slice A4 r.length C4]))
    (hgrow : (w4.alloc blk).grownBy w5 (Value.slice A rows.length C).ownBlock) (hat : (Value.slice A' (rows.length + 1) C').ownBlock = (Value.slice A rows.length C).ownBlock ∨ (Value.slice A' (rows.length + 1) C').ownBlock = some (w4.heap.size + 1)) :
    PlIn w base L H Ain inn (rows ++ [r]) A' C' w5 := by
  have hs4 := hb4.size
  have hs5 := hgrow.size
  simp at hs5
  have htop := h.top
  refine ⟨?_, ROwn.append hown hall hown5 hb4 hi4 hbase hgrow hat, h.inn.same (fun b h1 h2 => ?_), by omega, fun g hg => ?_⟩
  · exact ((h.below.trans (hb4.mono (by omega))).alloc (by omega) _).grown hgrow (by simp; omega) (fun g hg => by have := (hown.lt g hg).1; omega)
  · rw [hgrow.block b (by simp; omega) (fun e => by have := h.apart b e.symm; omega), Below.heap_alloc _ _ _ (by omega), hb4.block b (by omega)]
  · have hl : (rows ++ [r]).length = rows.length + 1 := by simp
    rw [hl] at hg
    rcases hat with h1 | h1
    · exact h.apart g (by rw [← h1]; exact hg)
    · rw [h1] at hg; simp at hg; omega

/-- A new row was made and appended to: nothing old has turned. -/
theorem pl_low {w w7 : World} {o : Obj} {n : Nat} {C : Nat} (h : (w.alloc o).grownBy w7 (Value.slice (some ⟨w.heap.size, 0, none⟩) n C).ownBlock) : Below w.heap.size w w7 :=
  ((Below.refl _ _).alloc (Nat.le_refl _) o).grown h (by simp) (fun g hg => by simp [Value.ownBlock] at hg; omega)

theorem rsl_at {w : World} {lo B : Nat} {a : Option Addr} {rows : List (List Int)} {i : Nat} (h : RSl w lo B a rows) (hi : i < rows.length) :
    ∃ b o a' c' r, a = some ⟨b, o, none⟩ ∧ lo ≤ b ∧ b < B ∧ rows[i]? = some r ∧ w.cell? ⟨b, o + i, none⟩ = some (.slice a' r.length c') ∧ ISl w lo B a' r := by
  rcases h with rfl | ⟨b, o, e, h1, h2, h3⟩
  · simp at hi
  · have hr : rows[i]? = some rows[i] := List.getElem?_eq_getElem hi
    obtain ⟨a', c', hc, hs⟩ := h3 i _ hr
    exact ⟨b, o, a', c', _, e, h1, h2, hr, hc, hs.1⟩
theorem rsl_at2 {w : World} {lo B : Nat} {a : Option Addr} {rows : List (List Int)} {i : Nat} (h : RSl w lo B a rows) (hi : i < rows.length) :
    ∃ b o a' c' r, a = some ⟨b, o, none⟩ ∧ lo ≤ b ∧ b < B ∧ rows[i]? = some r ∧ w.cell? ⟨b, o + i, none⟩ = some (.slice a' r.length c') ∧ ISc w lo B a' c' r := by
  rcases h with rfl | ⟨b, o, e, h1, h2, h3⟩
  · simp at hi
  · have hr : rows[i]? = some rows[i] := List.getElem?_eq_getElem hi
    obtain ⟨a', c', hc, hs⟩ := h3 i _ hr
    exact ⟨b, o, a', c', _, e, h1, h2, hr, hc, hs⟩

end Go.Proofs.Ytpfkhgiiojikbaa
