/- Several texts in one: P2, S3, SP1, P3. -/
import Derived.Test.YtkmfnhoeigoajaaKSub5
import Derived.Laws.OwnMore

/-! P2: kidsOf; rows of the call's own. -/
namespace Go.Proofs.Ytkmfnhoeigoajaa
open Go.RowKit Go.Deep

def KidsPost (B : Nat) (k : Fo) (w : World) (e : Ending) (w' : World) : Prop := ∃ a c, e = .returned (.slice a (flen k) c) ∧ Below w.heap.size w w' ∧ NSl w 0 B a k

theorem assert_var (v : Int) (w : World) : (Instr.typeAssert (.iface 83 (.int .i64 v)) 57 92 true).run Try.prog w = .ok (.tuple #[.agg #[.int .i64 0, .slice none 0 0], .bool false]) w := by kernel_rfl
theorem assert_sym (s : Int) (a : Option Addr) (n c : Nat) (w : World) : (Instr.typeAssert (.iface 92 (.agg #[.int .i64 s, .slice a n c])) 57 92 true).run Try.prog w = .ok (.tuple #[.agg #[.int .i64 s, .slice a n c], .bool true]) w := by kernel_rfl

set_option maxRecDepth 100000 in
set_option maxHeartbeats 400000 in
theorem kidsOf_any (s v : Int) (k : Fo) (nv : Value) (B : Nat) (w : World) (hn : NodeIs w 0 B nv s v k) : Calls Try.prog 54 #[nv] w (KidsPost B k w) := by
  have hta := assert_var
  have htb := assert_sym
  rcases hn with ⟨rfl, rfl, rfl⟩ | ⟨hs, a, c, rfl, hn⟩
  · go_enter Try.func54, Try.ntmps54
    go_wp2_with fail
    go_ret
    exact ⟨none, 0, rfl, Below.refl _ _, .inl rfl⟩
  · have HN := Lib.hid hn
    clear hn
    go_enter Try.func54, Try.ntmps54
    go_wp2_with fail
    go_ret
    exact ⟨a, c, rfl, (Below.refl _ _).alloc (Nat.le_refl _) _, HN.out⟩

/-- The slice (A, m, C) is a row of rows of the call's own, made from block base on; no row below it lies in its own block. -/
def ROwn (w : World) (base : Nat) (rows : List (List Int)) (A : Option Addr) (C : Nat) : Prop :=
  ∃ xs : List Value, w.ownsRow base 35 1 (.slice A rows.length C) rows.length xs ∧ ∀ (i : Nat) (r : List Int), rows[i]? = some r → ∃ a' c' L H, xs[i]? = some (Value.slice a' r.length c') ∧ ISc w L H a' c' r ∧ base ≤ L ∧ H ≤ w.heap.size ∧
    (∀ g, (Value.slice A rows.length C).ownBlock = some g → g < L ∨ H ≤ g)

theorem ROwn.sl {w : World} {base : Nat} {rows : List (List Int)} {A : Option Addr} {C : Nat} (h : ROwn w base rows A C) : RSl w base w.heap.size A rows := by
  obtain ⟨xs, hown, hall⟩ := h
  rcases Nat.eq_zero_or_pos rows.length with h0 | h0
  · exact .inl (List.eq_nil_of_length_eq_zero h0)
  · obtain ⟨g, cap, hv, hb, hlt⟩ := hown.form h0
    have hA : A = some ⟨g, 0, none⟩ := by simp only [Value.slice.injEq] at hv; exact hv.1
    have hc := hown.cells (g := g) (by rw [hA]; rfl)
    have ha : ∀ n, (⟨g, 0, none⟩ : Addr).add n = ⟨g, 0 + n, none⟩ := fun n => by unfold Addr.add; split <;> simp_all
    refine .inr ⟨g, 0, hA, hb, hlt, fun i r hr => ?_⟩
    obtain ⟨a', c', L, H, hx, hi, hL, hH, _⟩ := hall i r hr
    exact ⟨a', c', by have := hc _ _ hx; rwa [ha] at this, hi.mono hL hH⟩
theorem ROwn.low {w w2 : World} {base base' : Nat} {rows : List (List Int)} {A : Option Addr} {C : Nat} (h : ROwn w base rows A C) (hb : Below w.heap.size w w2) (hbase : base' ≤ base) : ROwn w2 base' rows A C := by
  obtain ⟨xs, hown, hall⟩ := h
  refine ⟨xs, own_base hbase (own_low hb hown), fun i r hr => ?_⟩
  obtain ⟨a', c', L, H, hx, hi, hL, hH, hg⟩ := hall i r hr
  exact ⟨a', c', L, H, hx, hi.same (fun b _ hb' => hb.block b (by omega)), by omega, Nat.le_trans hH hb.size, hg⟩
/-- One more row is appended: w: where the rows stood; w2: where the new one lies too; blk: the block that shows it to append. -/
theorem ROwn.append {w w2 w3 : World} {base : Nat} {rows : List (List Int)} {A A' : Option Addr} {C C' : Nat} {blk : Obj} {r : List Int} {a2 : Option Addr} {c2 : Nat} {xs : List Value} (hown : w.ownsRow base 35 1 (.slice A rows.length C) rows.length xs)
    (hall : ∀ (i : Nat) (r : List Int), rows[i]? = some r → ∃ a' c' L H, xs[i]? = some (Value.slice a' r.length c') ∧ ISc w L H a' c' r ∧ base ≤ L ∧ H ≤ w.heap.size ∧ (∀ g, (Value.slice A rows.length C).ownBlock = some g → g < L ∨ H ≤ g))
    (hown3 : w3.ownsRow base 35 1 (.slice A' (rows.length + 1) C') (rows.length + 1) (xs ++ [.slice a2 r.length c2])) (hb2 : Below w.heap.size w w2) (hi2 : ISc w2 w.heap.size w2.heap.size a2 c2 r) (hbase : base ≤ w.heap.size)
    (hgrow : (w2.alloc blk).grownBy w3 (Value.slice A rows.length C).ownBlock) (hat : (Value.slice A' (rows.length + 1) C').ownBlock = (Value.slice A rows.length C).ownBlock ∨ (Value.slice A' (rows.length + 1) C').ownBlock = some (w2.heap.size + 1)) : ROwn w3 base (rows ++ [r]) A' C' := by
  have hs2 := hb2.size
  have hs3 := hgrow.size
  simp at hs3
  have hxl : xs.length = rows.length := by have := hown.1; omega
  have hl : (rows ++ [r]).length = rows.length + 1 := by simp
  rw [ROwn, hl]
  refine ⟨_, hown3, fun i r' hr => ?_⟩
  have hcond : ∀ {L H : Nat}, (∀ g, (Value.slice A rows.length C).ownBlock = some g → g < L ∨ H ≤ g) → H ≤ w2.heap.size → ∀ g', (Value.slice A' (rows.length + 1) C').ownBlock = some g' → g' < L ∨ H ≤ g' := fun hg hH g' hg' => by
    rcases hat with h1 | h1
    · exact hg g' (by rw [← h1]; exact hg')
    · rw [h1] at hg'; simp at hg'; omega
  by_cases hi : i < rows.length
  · rw [List.getElem?_append_left hi] at hr
    obtain ⟨a', c', L, H, hx, hsl, hL, hH, hg⟩ := hall i r' hr
    refine ⟨a', c', L, H, by rw [List.getElem?_append_left (by omega)]; exact hx, hsl.same (fun b h1 h2 => ?_), hL, by omega, hcond hg (by omega)⟩
    rw [hgrow.block b (by simp; omega) (fun e => by have := hg b e.symm; omega), Below.heap_alloc _ _ _ (by omega), hb2.block b (by omega)]
  · have hir : i = rows.length := by
      have := (List.getElem?_eq_some_iff.1 hr).1
      simp at this
      omega
    subst hir
    simp at hr
    subst hr
    refine ⟨a2, c2, w.heap.size, w2.heap.size, by rw [← hxl]; simp, hi2.same (fun b h1 h2 => ?_), hbase, by omega, hcond (fun g hg => .inl (hown.lt _ hg).2) (Nat.le_refl _)⟩
    rw [hgrow.block b (by simp; omega) (fun e => by have := (hown.lt b e.symm).2; omega), Below.heap_alloc _ _ _ (by omega)]

/-- Numbers that a row of the call's own holds. -/
theorem isl_of_own {w : World} {base : Nat} {A : Option Addr} {C n : Nat} {xs : List Int} (h : w.ownsRow base 3 1 (.slice A n C) n (xs.map (Value.int .i64))) : ISl w base w.heap.size A xs := by
  have hl : xs.length = n := by have := h.1; simpa using this
  rcases Nat.eq_zero_or_pos n with h0 | h0
  · exact .inl (List.eq_nil_of_length_eq_zero (by omega))
  · obtain ⟨g, cap, hv, hb, hlt⟩ := h.form h0
    have hA : A = some ⟨g, 0, none⟩ := by simp only [Value.slice.injEq] at hv; exact hv.1
    have hc := h.cells (g := g) (by rw [hA]; rfl)
    have ha : ∀ n, (⟨g, 0, none⟩ : Addr).add n = ⟨g, 0 + n, none⟩ := fun n => by unfold Addr.add; split <;> simp_all
    refine .inr ⟨g, 0, hA, hb, hlt, fun i x hx => ?_⟩
    have := hc i (.int .i64 x) (by simp [hx])
    rwa [ha] at this
/-- The source of an append of numbers. -/
theorem own_cap {w : World} {base : Nat} {A : Option Addr} {C n e : Nat} {xs : List Value} (h : w.ownsRow base e 1 (.slice A n C) n xs) : n ≤ C := by
  rcases h.2 with ⟨_, h2⟩ | ⟨g, cap, cur, h3, _, _, h6, _⟩
  · omega
  · simp only [Value.slice.injEq] at h3
    omega
theorem isc_of_own {w : World} {base : Nat} {A : Option Addr} {C n : Nat} {xs : List Int} (h : w.ownsRow base 3 1 (.slice A n C) n (xs.map (Value.int .i64))) : ISc w base w.heap.size A C xs :=
  ⟨isl_of_own h, by have := own_cap h; have := h.1; simp at this; omega⟩
theorem src_of_isl {w : World} {lo B : Nat} {a : Option Addr} {xs : List Int} (h : ISl w lo B a xs) (hn : a = none → xs = []) : Src w 1 a xs.length (xs.map (Value.int .i64)) := by
  refine ⟨by simp, ?_⟩
  cases a with
  | none => exact .inl ⟨rfl, by rw [hn rfl]; rfl⟩
  | some ad =>
    refine .inr ⟨ad, rfl, fun j u hu => ?_⟩
    rcases h with h | ⟨b, o, e, h1, h2, h3⟩
    · rw [h] at hu; simp at hu
    · have ha : ad = ⟨b, o, none⟩ := by simpa using e
      subst ha
      rw [List.getElem?_map, Option.map_eq_some_iff] at hu
      obtain ⟨x, hx, rfl⟩ := hu
      rw [show (⟨b, o, none⟩ : Addr).add j = ⟨b, o + j, none⟩ from by unfold Addr.add; split <;> simp_all]
      exact h3 j x hx
theorem isl_none {w : World} {lo B : Nat} {xs : List Int} (h : ISl w lo B none xs) : xs = [] := by
  rcases h with h | ⟨b, o, e, _⟩
  · exact h
  · cases e
end Go.Proofs.Ytkmfnhoeigoajaa

/-! S3: What is put in: plain; nodes that stay. valueOf, symbolOf. -/
namespace Go.Proofs.Ytkmfnhoeigoajaa
open Go.RowKit Go.Deep Go.Maps

/-- What variables stand for put into terms of a row. -/
def fsub (σ : Int → Option (Int × Int × Fo)) : Fo → Fo
  | .nil => .nil
  | .node x y p k r => if p.1 = 0 then (match σ p.2 with
      | some t => .node x y (t.1, t.2.1) t.2.2 (fsub σ r)
      | none => .node x y p k (fsub σ r)) else .node x y p (fsub σ k) (fsub σ r)
def tsub (σ : Int → Option (Int × Int × Fo)) (s v : Int) (k : Fo) : Int × Int × Fo := if s = 0 then (σ v).getD (s, v, k) else (s, v, fsub σ k)
theorem fsub_len (σ : Int → Option (Int × Int × Fo)) : ∀ k : Fo, flen (fsub σ k) = flen k
  | .nil => rfl
  | .node _ _ p k r => by
    simp only [fsub]
    split
    · split <;> simp only [flen, fsub_len σ r]
    · simp only [flen, fsub_len σ r]
theorem fsub_at (σ : Int → Option (Int × Int × Fo)) : ∀ (i : Nat) (k : Fo) {x y : Nat} {s v : Int} {kk r : Fo}, fdrop i k = .node x y (s, v) kk r → fdrop i (fsub σ k) = .node x y ((tsub σ s v kk).1, (tsub σ s v kk).2.1) (tsub σ s v kk).2.2 (fdrop (i + 1) (fsub σ k))
  | 0, .nil, _, _, _, _, _, _, h => by simp [fdrop] at h
  | 0, .node _ _ p k r, x, y, s, v, kk, r', h => by
    simp only [fdrop, BT.node.injEq] at h
    obtain ⟨rfl, rfl, rfl, rfl, _⟩ := h
    simp only [fsub, tsub]
    by_cases e : s = 0
    · simp only [if_pos e]
      cases σ v with
      | none => simp [fdrop]
      | some t => simp [fdrop]
    · simp only [if_neg e]
      simp [fdrop]
  | _ + 1, .nil, _, _, _, _, _, _, h => by simp [fdrop] at h
  | n + 1, .node _ _ p k r, x, y, s, v, kk, r', h => by
    simp only [fdrop] at h
    have := fsub_at σ n r h
    simp only [fsub]
    split
    · split <;> simp only [fdrop, this]
    · simp only [fdrop, this]

/-- What stays where all cells but those of no node stay. -/
theorem NRow.keepN {w w' : World} {lo B : Nat} (hk : ∀ q x, w.cell? q = some x → x ≠ .nilIface → w'.cell? q = some x) : ∀ (k : Fo) (b o : Nat), NRow w lo B k b o → NRow w' lo B k b o
  | .nil, _, _, _ => trivial
  | .node _ _ p k r, b, o, ⟨hl, h0, ⟨val, h1, h2⟩, h5⟩ => by
    have hne : val ≠ .nilIface := by
      rcases h2 with ⟨_, _, rfl⟩ | ⟨_, a, c, rfl, _⟩ <;> (intro e; cases e)
    refine ⟨hl, h0, ⟨val, hk _ _ h1 hne, ?_⟩, NRow.keepN hk r b (o + 1) h5⟩
    rcases h2 with h2 | ⟨e, a, c, e2, h3⟩
    · exact .inl h2
    · refine .inr ⟨e, a, c, e2, ?_⟩
      rcases h3 with h3 | ⟨b', o', e3, h3⟩
      · exact .inl h3
      · exact .inr ⟨b', o', e3, NRow.keepN hk k b' o' h3⟩
theorem NodeIs.keepN {w w' : World} {lo B : Nat} {val : Value} {s v : Int} {k : Fo} (hk : ∀ q x, w.cell? q = some x → x ≠ .nilIface → w'.cell? q = some x) (h : NodeIs w lo B val s v k) : NodeIs w' lo B val s v k := by
  rcases h with h | ⟨hs, a, c, e, h⟩
  · exact .inl h
  · refine .inr ⟨hs, a, c, e, ?_⟩
    rcases h with h | ⟨b, o, e2, h⟩
    · exact .inl h
    · exact .inr ⟨b, o, e2, h.keepN hk⟩
theorem nrow_of_allS {w : World} {lo B : Nat} : ∀ (k : Fo) (b o : Nat), lo ≤ b → b < B →
    (∀ i, i < flen k → ∃ x y s v kk val, fdrop i k = .node x y (s, v) kk (fdrop (i + 1) k) ∧ w.cell? ⟨b, o + i, none⟩ = some val ∧ NodeIs w lo B val s v kk) → NRow w lo B k b o
  | .nil, _, _, _, _, _ => trivial
  | .node x y p kk r, b, o, h1, h2, h => by
    obtain ⟨x', y', s, v, kk', val, e, c0, hn⟩ := h 0 (by simp [flen])
    simp only [fdrop, BT.node.injEq] at e
    obtain ⟨_, _, rfl, rfl, _⟩ := e
    refine ⟨h1, h2, ⟨val, by simpa using c0, hn⟩, nrow_of_allS r b (o + 1) h1 h2 fun i hi => ?_⟩
    obtain ⟨x', y', s', v', kk', val', e, c0, hn⟩ := h (i + 1) (by simp [flen]; omega)
    exact ⟨x', y', s', v', kk', val', e, by rw [show o + 1 + i = o + (i + 1) from by omega]; exact c0, hn⟩

theorem zeroE (w : World) : (zeroValue 57).run Try.prog w = .ok .nilIface w := by kernel_rfl

def NvPost (s v : Int) (k : Fo) (w : World) (e : Ending) (w' : World) : Prop := ∃ nv, e = .returned nv ∧ Below w.heap.size w w' ∧ NodeIs w' 0 w'.heap.size nv s v k

set_option maxRecDepth 100000 in
set_option maxHeartbeats 1000000 in
theorem valueOf_any (bs : List Bd) (b : Nat) (x : Int) (w : World) (hm : MapIs w b bs) (hw : (Lit.int .i64 x).wf = true) :
    Calls Try.prog 52 #[.map (some b), .int .i64 x] w (NvPost (tsub (sv bs) 0 x .nil).1 (tsub (sv bs) 0 x .nil).2.1 (tsub (sv bs) 0 x .nil).2.2 w) := by
  obtain ⟨n, D, hown, hn, hsv⟩ := hm
  have HOWN := Lib.hid hown
  have HKEY := Lib.hid (key_of hw)
  have hx := hsv x hw
  have hz := zeroE
  clear hown hsv
  cases hs : sv bs x with
  | none =>
    have hh := hx.1 hs
    have HT : Hid (tsub (sv bs) 0 x .nil = (0, x, .nil)) := by simp [Hid, tsub, hs]
    clear hx hs
    go_enter Try.func52, Try.ntmps52
    go_wp2_with (at_lookup; refine wpList_lookup_own_ok (H := Value) _ rfl _ _ 53 rfl 83 57 law underM rdV (zeroE _) (.held .nilIface) [] rfl b n D rfl HOWN.out (.int .i64 x) (.int .i64 x) rfl HKEY.out ?_; intro nv ps hnv; rw [hh]; clear hnv)
    go_ret
    rw [HT.out]
    exact ⟨_, rfl, Below.refl _ _, .inl ⟨rfl, rfl, rfl⟩⟩
  | some t =>
    obtain ⟨s', v', k'⟩ := t
    obtain ⟨hh, nv0, hat, hnode⟩ := hx.2 s' v' k' hs
    have HT : Hid (tsub (sv bs) 0 x .nil = (s', v', k')) := by simp [Hid, tsub, hs]
    have HNODE := Lib.hid hnode
    have HAT := Lib.hid hat
    clear hx hs hnode hat
    go_enter Try.func52, Try.ntmps52
    go_wp2_with (at_lookup; refine wpList_lookup_own_ok (H := Value) _ rfl _ _ 53 rfl 83 57 law underM rdV (zeroE _) (.held .nilIface) [] rfl b n D rfl HOWN.out (.int .i64 x) (.int .i64 x) rfl HKEY.out ?_; intro nv ps hnv; rw [hh]; have HE : Hid (nv = nv0) := (by have := HAT.out; simp only [rdV, Option.some.injEq, Prod.mk.injEq] at hnv; rw [this] at hnv; exact DataW.held.inj hnv.1); clear hnv)
    go_ret
    rw [HT.out]
    exact ⟨nv, rfl, Below.refl _ _, by rw [HE.out]; exact HNODE.out⟩

set_option maxRecDepth 100000 in
theorem symbolOf_any (s : Int) (a : Option Addr) (n c : Nat) (w : World) :
    Calls Try.prog 53 #[.int .i64 s, .slice a n c] w fun e w' => e = .returned (.iface 92 (.agg #[.int .i64 s, .slice a n c])) ∧ w' = w := by
  go_enter Try.func53, Try.ntmps53
  go_wp2_with fail
  go_ret
  exact ⟨rfl, rfl⟩
end Go.Proofs.Ytkmfnhoeigoajaa

/-! SP1: What a variable stands for: the specification's l2Of. -/
namespace Go.Proofs.Ytkmfnhoeigoajaa
open Go.RowKit Go.Deep

def OfPost (bs : List Bd) (x : Int) (w : World) (e : Ending) (w' : World) : Prop :=
  ∃ a c, e = .returned (.agg #[.int .i64 (tsub (sv bs) 0 x .nil).1, .int .i64 (tsub (sv bs) 0 x .nil).2.1, .slice a (flen (tsub (sv bs) 0 x .nil).2.2) c]) ∧ Below w.heap.size w w' ∧ Sl w' 0 w'.heap.size a (tsub (sv bs) 0 x .nil).2.2

theorem of_end {w : World} {bs : List Bd} {x s v : Int} {k : Fo} {a : Option Addr} {c : Nat} {Z : Obj} (hr : tsub (sv bs) 0 x .nil = (s, v, k)) (hl : Sl w 0 w.heap.size a k) :
    OfPost bs x w (.returned (.agg #[.int .i64 s, .int .i64 v, .slice a (flen k) c])) (w.alloc Z) := by
  have hb : Below w.heap.size w (w.alloc Z) := (Below.refl _ _).alloc (Nat.le_refl _) Z
  refine ⟨a, c, by rw [hr], hb, ?_⟩
  rw [hr]
  exact (hl.below hb).mono (Nat.le_refl _) hb.size

set_option maxRecDepth 100000 in
set_option maxHeartbeats 1000000 in
theorem l2Of_any (bs : List Bd) (A : Option Addr) (C : Nat) (x : Int) (w : World) (hb : BSl w 0 w.heap.size A bs) (hl : bs.length ≤ 9223372036854775807) :
    Calls Try.prog 49 #[.slice A bs.length C, .int .i64 x] w (OfPost bs x w) := by
  have HB := Lib.hid hb
  clear hb
  go_enter Try.func49, Try.ntmps49
  go_wp2_with fail
  go_loopw [5] (fun i wr => ∃ j : Nat, i = .int .i64 j ∧ j ≤ bs.length ∧ wr = w.alloc (.cells #[.int .i64 0, .int .i64 0, .slice none 0 0] 26) ∧ Hid (sv bs x = sv (bs.drop j) x)) (fun i _ => bs.length - (intOf i).toNat)
  case atStart => exact ⟨0, rfl, Nat.zero_le _, rfl, by simp [Hid]⟩
  case round =>
    obtain ⟨j, rfl, hj, rfl, HS⟩ := hrel
    by_cases hlt : j < bs.length
    · obtain ⟨y, hy⟩ : ∃ y, bs[j]? = some y := ⟨bs[j], List.getElem?_eq_getElem hlt⟩
      obtain ⟨xv, s, v, k⟩ := y
      have hbr := HB.out
      rcases hbr with hbr | ⟨b, o, rfl, _, hbB, hcells⟩
      · subst hbr; simp at hy
      obtain ⟨a', c', c0, c1, c2, c3, hsl⟩ := hcells j _ hy
      dsimp only at c0 c1 c2 c3 hsl
      have d0 := (World.cell?_alloc_lt w (.cells #[.int .i64 0, .int .i64 0, .slice none 0 0] 26) ⟨b, o + j * 4, none⟩ hbB).trans c0
      have d1 := (World.cell?_alloc_lt w (.cells #[.int .i64 0, .int .i64 0, .slice none 0 0] 26) ⟨b, o + j * 4 + 1, none⟩ hbB).trans c1
      have d2 := (World.cell?_alloc_lt w (.cells #[.int .i64 0, .int .i64 0, .slice none 0 0] 26) ⟨b, o + j * 4 + 1 + 1, none⟩ hbB).trans c2
      have d3 := (World.cell?_alloc_lt w (.cells #[.int .i64 0, .int .i64 0, .slice none 0 0] 26) ⟨b, o + j * 4 + 1 + 2, none⟩ hbB).trans c3
      have HD := Lib.hid (drop_bd hy)
      have HSL := Lib.hid hsl
      have g1 : (0 : Int) ≤ (j : Int) := by omega
      have g2 : (j : Int) < (bs.length : Int) := by omega
      clear hcells hy c0 c1 c2 c3 hsl
      by_cases hx : xv = x
      · have hxe : (xv == x) = true := by simpa using hx
        have HT : Hid (tsub (sv bs) 0 x .nil = (s, v, k)) := by
          rw [Hid, tsub, if_pos rfl, HS.out, HD.out]; simp only [sv]; rw [if_pos hx]; rfl
        clear hx HS HD
        go_wp2_with fail
        refine bodyPost_ret (v := .agg #[.int .i64 s, .int .i64 v, .slice a' (flen k) c']) ?_ rfl (of_end HT.out HSL.out)
        simp [results, Try.results49, go_sem]
      · have hxe : (xv == x) = false := by simpa using hx
        have HN : Hid (sv bs x = sv (bs.drop (j + 1)) x) := by rw [Hid, HS.out, HD.out]; simp only [sv]; rw [if_neg hx]
        clear hx HS HD
        go_wp2_with fail
        go_roundw
        case rel => exact ⟨j + 1, by go_num, by omega, trivial, HN⟩
        case measure => simp [intOf]; omega
    · have HT : Hid (tsub (sv bs) 0 x .nil = (0, x, .nil)) := by
        rw [Hid, tsub, if_pos rfl, HS.out, List.drop_eq_nil_of_le (by omega)]; rfl
      clear HS
      go_wp2_with fail
      refine bodyPost_ret (v := .agg #[.int .i64 0, .int .i64 x, .slice none 0 0]) ?_ rfl (of_end (k := .nil) HT.out (.inl rfl))
      simp [results, Try.results49, go_sem]
end Go.Proofs.Ytkmfnhoeigoajaa

/-! P3: placesOf: the positions of a node. -/
namespace Go.Proofs.Ytkmfnhoeigoajaa
open Go.RowKit Go.Deep

theorem fpl_len : ∀ (k : Fo) (i : Nat), (fpl k i).length = fsz k
  | .nil, _ => rfl
  | .node _ _ _ k r, i => by simp only [fpl, fsz, List.length_append, List.length_map, List.length_cons, fpl_len k 0, fpl_len r (i + 1)]; omega
theorem places_len (k : Fo) : (places k).length = 1 + fsz k := by simp [places, fpl_len]; omega
theorem fpl_deep : ∀ (k : Fo) (i : Nat) (p : List Int), p ∈ fpl k i → p.length ≤ fsz k
  | .nil, _, _, h => by simp [fpl] at h
  | .node _ _ _ k r, i, p, h => by
    simp only [fpl, List.map_cons, List.cons_append, List.mem_cons, List.mem_append, List.mem_map] at h
    rcases h with rfl | ⟨q, hq, rfl⟩ | h
    · simp [fsz]
    · have := fpl_deep k 0 q hq; simp only [fsz, List.length_cons]; omega
    · have := fpl_deep r (i + 1) p h; simp only [fsz]; omega
theorem places_deep {k : Fo} {p : List Int} (h : p ∈ places k) : p.length ≤ fsz k := by
  simp only [places, List.mem_cons] at h
  rcases h with rfl | h
  · exact Nat.zero_le _
  · exact fpl_deep k 0 p h

def PlPost (k : Fo) (w : World) (e : Ending) (w' : World) : Prop :=
  ∃ A C, e = .returned (.slice A (places k).length C) ∧ Below w.heap.size w w' ∧ RSl w' w.heap.size w'.heap.size A (places k)

/-- The first row: the root's own. -/
theorem rown_start {w w3 : World} (hb : Below ((w.alloc (.cells #[] 3)).alloc (.cells #[.slice (some ⟨w.heap.size, 0, none⟩) 0 0] 35)).heap.size ((w.alloc (.cells #[] 3)).alloc (.cells #[.slice (some ⟨w.heap.size, 0, none⟩) 0 0] 35)) w3) :
    ROwn w3 w.heap.size [[]] (some ⟨w.heap.size + 1, 0, none⟩) 1 := by
  refine ROwn.low (w := (w.alloc (.cells #[] 3)).alloc (.cells #[.slice (some ⟨w.heap.size, 0, none⟩) 0 0] 35)) ⟨[.slice (some ⟨w.heap.size, 0, none⟩) 0 0], ⟨rfl, .inr ⟨w.heap.size + 1, 1, #[.slice (some ⟨w.heap.size, 0, none⟩) 0 0], rfl, by omega, ?_, Nat.le_refl _, by decide, rfl, rfl⟩⟩, fun i r hr => ?_⟩ hb (Nat.le_refl _)
  · have := heap_alloc_new (w.alloc (.cells #[] 3)) (.cells #[.slice (some ⟨w.heap.size, 0, none⟩) 0 0] 35)
    simpa using this
  · have hi : i = 0 := by
      have := (List.getElem?_eq_some_iff.1 hr).1
      simp at this
      exact this
    subst hi
    simp at hr
    subst hr
    exact ⟨_, 0, w.heap.size, w.heap.size, rfl, ⟨.inl rfl, Nat.zero_le _⟩, Nat.le_refl _, by simp; omega, fun g hg => .inr (by simp [Value.ownBlock] at hg; omega)⟩

/-- What holds at the head of the inner loop: the rows so far; the rows inn that are gone through, which nothing writes. -/
structure PlIn (w : World) (base : Nat) (L H : Nat) (Ain : Option Addr) (inn rows : List (List Int)) (A : Option Addr) (C : Nat) (wr : World) : Prop where
  below : Below w.heap.size w wr
  own : ROwn wr base rows A C
  inn : RSl wr L H Ain inn
  top : H ≤ wr.heap.size
  apart : ∀ g, (Value.slice A rows.length C).ownBlock = some g → g < L ∨ H ≤ g

theorem PlIn.step {w wr w4 w5 : World} {base L H : Nat} {Ain : Option Addr} {inn rows : List (List Int)} {A A' A4 : Option Addr} {C C' C4 : Nat} {r : List Int} {blk : Obj} {xs : List Value} (h : PlIn w base L H Ain inn rows A C wr) (hw : w.heap.size ≤ base) (hbase : base ≤ wr.heap.size)
    (hown : wr.ownsRow base 35 1 (.slice A rows.length C) rows.length xs)
    (hall : ∀ (i : Nat) (r : List Int), rows[i]? = some r → ∃ a' c' L H, xs[i]? = some (Value.slice a' r.length c') ∧ ISc wr L H a' c' r ∧ base ≤ L ∧ H ≤ wr.heap.size ∧ (∀ g, (Value.slice A rows.length C).ownBlock = some g → g < L ∨ H ≤ g))
    (hb4 : Below wr.heap.size wr w4) (hi4 : ISc w4 wr.heap.size w4.heap.size A4 C4 r) (hown5 : w5.ownsRow base 35 1 (.slice A' (rows.length + 1) C') (rows.length + 1) (xs ++ [.slice A4 r.length C4]))
    (hgrow : (w4.alloc blk).grownBy w5 (Value.slice A rows.length C).ownBlock) (hat : (Value.slice A' (rows.length + 1) C').ownBlock = (Value.slice A rows.length C).ownBlock ∨ (Value.slice A' (rows.length + 1) C').ownBlock = some (w4.heap.size + 1)) :
    PlIn w base L H Ain inn (rows ++ [r]) A' C' w5 := by
  have hs4 := hb4.size
  have hs5 := hgrow.size
  simp at hs5
  have htop := h.top
  refine ⟨?_, ROwn.append hown hall hown5 hb4 hi4 hbase hgrow hat, h.inn.same (fun b h1 h2 => ?_), by omega, fun g hg => ?_⟩
  · exact ((h.below.trans (hb4.mono (by omega))).alloc (by omega) _).grown hgrow (by simp; omega) (fun g hg => by have := (hown.lt g hg).1; omega)
  · rw [hgrow.block b (by simp; omega) (fun e => by have := h.apart b e.symm; omega), Below.heap_alloc _ _ _ (by omega), hb4.block b (by omega)]
  · have hl : (rows ++ [r]).length = rows.length + 1 := by simp
    rw [hl] at hg
    rcases hat with h1 | h1
    · exact h.apart g (by rw [← h1]; exact hg)
    · rw [h1] at hg; simp at hg; omega

/-- A new row was made and appended to: nothing old has turned. -/
theorem pl_low {w w7 : World} {o : Obj} {n : Nat} {C : Nat} (h : (w.alloc o).grownBy w7 (Value.slice (some ⟨w.heap.size, 0, none⟩) n C).ownBlock) : Below w.heap.size w w7 :=
  ((Below.refl _ _).alloc (Nat.le_refl _) o).grown h (by simp) (fun g hg => by simp [Value.ownBlock] at hg; omega)

theorem rsl_at {w : World} {lo B : Nat} {a : Option Addr} {rows : List (List Int)} {i : Nat} (h : RSl w lo B a rows) (hi : i < rows.length) :
    ∃ b o a' c' r, a = some ⟨b, o, none⟩ ∧ lo ≤ b ∧ b < B ∧ rows[i]? = some r ∧ w.cell? ⟨b, o + i, none⟩ = some (.slice a' r.length c') ∧ ISl w lo B a' r := by
  rcases h with rfl | ⟨b, o, e, h1, h2, h3⟩
  · simp at hi
  · have hr : rows[i]? = some rows[i] := List.getElem?_eq_getElem hi
    obtain ⟨a', c', hc, hs⟩ := h3 i _ hr
    exact ⟨b, o, a', c', _, e, h1, h2, hr, hc, hs.1⟩
theorem rsl_at2 {w : World} {lo B : Nat} {a : Option Addr} {rows : List (List Int)} {i : Nat} (h : RSl w lo B a rows) (hi : i < rows.length) :
    ∃ b o a' c' r, a = some ⟨b, o, none⟩ ∧ lo ≤ b ∧ b < B ∧ rows[i]? = some r ∧ w.cell? ⟨b, o + i, none⟩ = some (.slice a' r.length c') ∧ ISc w lo B a' c' r := by
  rcases h with rfl | ⟨b, o, e, h1, h2, h3⟩
  · simp at hi
  · have hr : rows[i]? = some rows[i] := List.getElem?_eq_getElem hi
    obtain ⟨a', c', hc, hs⟩ := h3 i _ hr
    exact ⟨b, o, a', c', _, e, h1, h2, hr, hc, hs⟩

set_option maxRecDepth 100000 in
set_option maxHeartbeats 1000000 in
theorem placesOf_any (N : Nat) : ∀ (s v : Int) (k : Fo) (nv : Value) (w : World), NodeIs w 0 w.heap.size nv s v k → fsz k ≤ N → N ≤ 1000 →
    Calls Try.prog 33 #[nv] w (PlPost k w) := by
  induction N using Nat.strongRecOn with
  | _ N ih =>
    intro s v k nv w hn hN hN2
    have hfl := flen_le_sz k
    have IH := Lib.hid ih
    have HN := Lib.hid hn
    clear ih hn
    obtain ⟨ti, hti, htz, hts, htb⟩ := Try.infoI
    obtain ⟨tj, hji, hjz, hjs, hjb⟩ := Try.infoIS
    have HTI : Hid (Try.prog.info? 3 = some ti ∧ ti.zero = some (.int .i64 0) ∧ ti.size = 1 ∧ ti.bytes = 8) := ⟨hti, htz, hts, htb⟩
    have HTJ : Hid (Try.prog.info? 35 = some tj ∧ tj.zero = some (.slice none 0 0) ∧ tj.size = 1 ∧ tj.bytes = 24) := ⟨hji, hjz, hjs, hjb⟩
    clear hti htz hts htb hji hjz hjs hjb
    go_enter Try.func33, Try.ntmps33
    go_wp2_with fail
    with_reducible refine (kidsOf_any s v k nv w.heap.size _ ?_).mono ?_
    · exact HN.out.below (((Below.refl _ _).alloc (Nat.le_refl _) _).alloc (by simp) _)
    rintro e w3 ⟨a, c, rfl, hb3, hns⟩
    have HST : Hid (ROwn w3 w.heap.size [[]] (some ⟨w.heap.size + 1, 0, none⟩) 1) := rown_start hb3
    have HB3 : Hid (Below w.heap.size w w3) := (((Below.refl w.heap.size w).alloc (Nat.le_refl _) _).alloc (by simp) _).trans (hb3.mono (by simp; omega))
    have HNS : Hid (NSl w3 0 w.heap.size a k) := hns.below (hb3.mono (by simp; omega))
    have hs3 := hb3.size
    simp at hs3
    clear hb3 hns
    go_wp2_with fail
    go_loopw [3, 13] (fun t i wr => ∃ (j C : Nat) (A : Option Addr) (rows : List (List Int)), j ≤ flen k ∧ i = .int .i64 j ∧ t = .slice A rows.length C ∧ rows.length ≤ 1 + fsz k ∧ Hid (places k = rows ++ fpl (fdrop j k) j) ∧ ROwn wr w.heap.size rows A C ∧ Below w.heap.size w wr ∧ w.heap.size + 2 ≤ wr.heap.size) (fun _ i _ => flen k - (intOf i).toNat)
    case atStart => exact ⟨0, 1, _, [[]], by omega, rfl, rfl, by simp, rfl, HST.out, HB3.out, by omega⟩
    case round =>
      clear HST
      obtain ⟨wo, hwo⟩ : ∃ wo, wo = wr := ⟨_, rfl⟩
      subst hwo
      obtain ⟨j, C, A, rows, hj, rfl, rfl, hrl, hpl, hro, hbl, hsz⟩ := hrel
      by_cases hlt : j < flen k
      · have hnsr : NSl wo 0 w.heap.size a k := HNS.out.same (fun b _ hb => by rw [hbl.block b hb, HB3.out.block b hb])
        rcases hnsr with rfl | ⟨b, o, rfl, hrow⟩
        · simp [flen] at hlt
        obtain ⟨s', v', kk, val, ⟨x, y, hd⟩, _, hbB, hk0, hnk⟩ := nrow_at hrow hlt
        have hkN := fsz_kid hd
        have HPL : Hid (places k = rows ++ ((places kk).map (fun p => (j : Int) :: p) ++ fpl (fdrop (j + 1) k) (j + 1))) := by
          have := hpl.out
          rw [hd] at this
          unfold Hid
          simpa [fpl, places] using this
        have HNK := Lib.hid (hnk.mono (Nat.le_refl _) (show w.heap.size ≤ wo.heap.size by omega))
        have HRO := Lib.hid hro
        have HBL := Lib.hid hbl
        clear hd hrow hpl hnk hro hbl
        obtain ⟨ty, vv, rfl⟩ : ∃ ty vv, val = .iface ty vv := by
          rcases HNK.out with ⟨_, _, rfl⟩ | ⟨_, _, _, rfl, _⟩
          · exact ⟨_, _, rfl⟩
          · exact ⟨_, _, rfl⟩
        go_wp2_with fail
        with_reducible refine (IH.out (fsz kk) (by omega) s' v' kk _ _ HNK.out (Nat.le_refl _) (by omega)).mono ?_
        rintro e w5 ⟨A5, C5, rfl, hb5, hr5⟩
        have hs5 := hb5.size
        have HIN : Hid (PlIn w w.heap.size wo.heap.size w5.heap.size A5 (places kk) rows A C w5) :=
          ⟨HBL.out.trans (hb5.mono (by omega)), HRO.out.low hb5 (Nat.le_refl _), hr5, Nat.le_refl _, fun g hg => .inl (by obtain ⟨xs, hown, _⟩ := HRO.out; exact (hown.lt g hg).2)⟩
        have hpn := places_len kk
        have HPN := Lib.hid hpn
        have hpn2 : (places kk).length ≤ 1001 := by omega
        have HDP : Hid (∀ p, p ∈ places kk → p.length ≤ 1000) := fun p hp => by have := places_deep hp; omega
        have HLEN : Hid (rows.length + (places kk).length ≤ 1 + fsz k) := by
          have h1 := congrArg List.length HPL.out
          rw [places_len, List.length_append, List.length_append, List.length_map] at h1
          unfold Hid
          omega
        clear hb5 hr5 hpn HRO HBL HNK hk0
        generalize hinn : places kk = inn at *
        clear hinn
        go_wp2_with fail
        go_loopw [3, 21] (fun t i w6 => ∃ (q C6 : Nat) (A6 : Option Addr) (r6 : List (List Int)), q ≤ inn.length ∧ i = .int .i64 q ∧ t = .slice A6 r6.length C6 ∧ Hid (r6 = rows ++ (inn.take q).map (fun p => (j : Int) :: p)) ∧ PlIn w w.heap.size wo.heap.size w5.heap.size A5 inn r6 A6 C6 w6 ∧ w.heap.size + 2 ≤ w6.heap.size) (fun _ i _ => inn.length - (intOf i).toNat)
        case atStart => exact ⟨0, C, A, rows, by omega, rfl, rfl, by simp [Hid], HIN.out, by omega⟩
        case round =>
          clear HIN
          obtain ⟨q, C6, A6, r6, hq, rfl, rfl, hr6, hin, hsz6⟩ := hrel
          by_cases hlt6 : q < inn.length
          · obtain ⟨b6, o6, a6, c6, p6, hA5, _, hb6, hp6, hcell6, hisl6⟩ := rsl_at hin.inn hlt6
            subst hA5
            have hpl6 : p6.length ≤ 1000 := HDP.out p6 (List.mem_of_getElem? hp6)
            have htop := hin.top
            obtain ⟨xs, hown, hall⟩ := hin.own
            have HR6 : Hid (r6 ++ [(j : Int) :: p6] = rows ++ (inn.take (q + 1)).map (fun p => (j : Int) :: p)) := by
              rw [Hid, hr6.out, List.take_add_one, hp6]
              simp
            have hrl6 : r6.length ≤ 2100 := by
              rw [hr6.out, List.length_append, List.length_map, List.length_take]
              omega
            have HIN := Lib.hid hin
            have HOWN := Lib.hid hown
            have HALL := Lib.hid hall
            have HISL := Lib.hid hisl6
            clear hin hown hall hisl6 hr6 hp6
            have HO1 : Hid ((wr.alloc (.cells #[.int .i64 (j : Int)] 3)).ownsRow wr.heap.size 3 1 (.slice (some ⟨wr.heap.size, 0, none⟩) 1 1) 1 [.int .i64 (j : Int)]) :=
              ⟨rfl, .inr ⟨wr.heap.size, 1, #[.int .i64 (j : Int)], rfl, Nat.le_refl _, heap_alloc_new _ _, Nat.le_refl _, by decide, rfl, rfl⟩⟩
            have HSRC : Hid (Src (wr.alloc (.cells #[.int .i64 (j : Int)] 3)) 1 a6 p6.length (p6.map (Value.int .i64))) :=
              src_of_isl (HISL.out.same (fun b _ hb => Below.heap_alloc _ _ _ (by omega))) (fun ha => by have := HISL.out; rw [ha] at this; exact isl_none this)
            go_wp2_with (at_builtin; first
              | (refine wpList_append_src _ rfl _ _ 35 rfl wr.heap.size 3 ti _ 1 8 Try.underlying35 HTI.out.1 HTI.out.2.1 HTI.out.2.2.1 HTI.out.2.2.2 rfl (by omega) (.slice (some ⟨wr.heap.size, 0, none⟩) 1 1) 1 [.int .i64 (j : Int)] rfl HO1.out a6 p6.length c6 (p6.map (Value.int .i64)) rfl HSRC.out (by simp [Value.oneCell']) (by unfold maxLen; omega) (by omega) (by simp) ?_; intro A7 C7 w7 hown7 hgrow7 hat7)
              | (refine wpList_append_src _ rfl _ _ 32 rfl w.heap.size 35 tj _ 1 24 Try.underlying32 HTJ.out.1 HTJ.out.2.1 HTJ.out.2.2.1 HTJ.out.2.2.2 rfl (by omega) (.slice A6 r6.length C6) r6.length xs rfl (own_low ((Below.refl _ _).alloc (Nat.le_refl _) _) (own_low (pl_low hgrow7) HOWN.out)) (some ⟨w7.heap.size, 0, none⟩) 1 1 [.slice A7 (1 + p6.length) C7] rfl ⟨rfl, .inr ⟨_, rfl, World.news_of_block (heap_alloc_new _ _)⟩⟩ (by simp [Value.oneCell']) (by unfold maxLen; omega) (by omega) (by have := hgrow7.size; simp at this ⊢; omega) ?_; intro A8 C8 w8 hown8 hgrow8 hat8))
            have e7 : 1 + p6.length = ((j : Int) :: p6).length := by simp; omega
            have hi7 : ISc w7 wr.heap.size w7.heap.size A7 C7 ((j : Int) :: p6) := isc_of_own (n := 1 + p6.length) (by simpa using hown7)
            rw [e7] at hown8
            have hstep := HIN.out.step (r := (j : Int) :: p6) (Nat.le_refl _) (by omega) HOWN.out HALL.out (pl_low hgrow7) hi7 hown8 hgrow8 (by simpa using hat8)
            have hs7 := hgrow7.size
            have hs8 := hgrow8.size
            simp at hs7 hs8
            refine ⟨⟨q + 1, C8, A8, r6 ++ [(j : Int) :: p6], by omega, by go_num, by simp, HR6, hstep, by omega⟩, ?_⟩
            simp [intOf]; omega
          · have hqe : q = inn.length := by omega
            subst hqe
            have HR6 : Hid (places k = r6 ++ fpl (fdrop (j + 1) k) (j + 1)) := by
              rw [Hid, HPL.out, hr6.out, List.take_length]
              simp
            have hl6 : r6.length ≤ 1 + fsz k := by
              rw [hr6.out, List.take_length, List.length_append, List.length_map]
              exact HLEN.out
            have HIN := Lib.hid hin
            clear hin hr6
            go_wp2_with fail
            refine ⟨⟨j + 1, C6, A6, r6, by omega, by go_num, rfl, hl6, HR6, HIN.out.own, HIN.out.below, hsz6⟩, ?_⟩
            simp [intOf]; omega
      · have HE : Hid (places k = rows) := by
          have := hpl.out
          rw [fdrop_all (by omega)] at this
          unfold Hid
          simpa [fpl] using this
        have HP : Hid (PlPost k w (.returned (.slice A rows.length C)) wo) := by
          refine ⟨A, C, by rw [HE.out], hbl, ?_⟩
          rw [HE.out]
          exact hro.sl
        clear hpl hro hbl
        go_wp2_with fail
        go_ret
        exact HP.out
end Go.Proofs.Ytkmfnhoeigoajaa
