/- Several texts in one: XTo, OT, PO. -/
import Derived.Test.YtdkcbbhkoibplaaKLn20
import Derived.Test.YtdkcbbhkoibplaaKLn6
import Derived.Test.YtdkcbbhkoibplaaKLn7

/-! XTo: Trees of one's own as XT has them, and no cell of them frozen. Plain lemmas. -/
namespace Go.Proofs.Ytdkcbbhkoibplaa
open Go.RowKit Go.Deep

/-- The row of the terms k in block b from offset o on, not frozen; the rows below them from block lo on below B. -/
def Tro (w : World) : Fo → Nat → Nat → Nat → Nat → Prop
  | .nil, _, _, lo, B => lo ≤ B
  | .node _ _ _ k r, b, o, lo, B => b < lo ∧ (∃ x, w.cell? ⟨b, o, none⟩ = some (.int .i64 x)) ∧ (∃ x, w.cell? ⟨b, o + 1, none⟩ = some (.int .i64 x)) ∧ w.frozen? ⟨b, o, none⟩ = false ∧ (w.frozen? ⟨b, o + 1, none⟩ = false ∧ w.frozen? ⟨b, o + 2, none⟩ = false) ∧
      ∃ M a c, lo ≤ M ∧ w.cell? ⟨b, o + 2, none⟩ = some (.slice a (flen k) c) ∧ (k = .nil ∨ ∃ b', a = some ⟨b', 0, none⟩ ∧ lo ≤ b' ∧ b' < M ∧ Tro w k b' 0 (b' + 1) M) ∧ Tro w r b (o + 3) M B
def TroS (w : World) (lo B : Nat) (a : Option Addr) (k : Fo) : Prop := k = .nil ∨ ∃ b, a = some ⟨b, 0, none⟩ ∧ lo ≤ b ∧ b < B ∧ Tro w k b 0 (b + 1) B

theorem Tro.le {w : World} : ∀ {k : Fo} {b o lo B : Nat}, Tro w k b o lo B → lo ≤ B
  | .nil, _, _, _, _, h => h
  | .node _ _ _ _ _, _, _, _, _, ⟨_, _, _, _, _, _, _, _, h1, _, _, h2⟩ => Nat.le_trans h1 h2.le
theorem Tro.mono {w : World} {B' : Nat} : ∀ {k : Fo} {b o lo B : Nat}, B ≤ B' → Tro w k b o lo B → Tro w k b o lo B'
  | .nil, _, _, _, _, hB, h => Nat.le_trans h hB
  | .node _ _ _ _ _, _, _, _, _, hB, ⟨h0, h1, h2, h3, h4, M, a, c, h5, h6, h7, h8⟩ => ⟨h0, h1, h2, h3, h4, M, a, c, h5, h6, h7, h8.mono hB⟩
theorem Tro.same {w w' : World} {L H : Nat} (hb : Same L H w w') : ∀ {k : Fo} {b o lo B : Nat}, L ≤ b → b < H → L ≤ lo → B ≤ H → Tro w k b o lo B → Tro w' k b o lo B
  | .nil, _, _, _, _, _, _, _, _, h => h
  | .node _ _ _ k r, b, o, lo, B, h1, h2, h3, h4, ⟨g0, ⟨x, hx⟩, ⟨y, hy⟩, f0, f1, M, a, c, g5, g6, g7, g8⟩ => by
    have hM := g8.le
    refine ⟨g0, ⟨x, by rw [hb.cell h1 h2]; exact hx⟩, ⟨y, by rw [hb.cell h1 h2]; exact hy⟩, by rw [frozen_same (hb b h1 h2)]; exact f0, ⟨by rw [frozen_same (hb b h1 h2)]; exact f1.1, by rw [frozen_same (hb b h1 h2)]; exact f1.2⟩, M, a, c, g5, by rw [hb.cell h1 h2]; exact g6, ?_, g8.same hb h1 h2 (by omega) h4⟩
    rcases g7 with g7 | ⟨b', e, e1, e2, g7⟩
    · exact .inl g7
    · exact .inr ⟨b', e, e1, e2, g7.same hb (by omega) (by omega) (by omega) (by omega)⟩
theorem TroS.same {w w' : World} {lo B : Nat} {a : Option Addr} {k : Fo} (hb : Same lo B w w') (h : TroS w lo B a k) : TroS w' lo B a k := by
  rcases h with h | ⟨b, e, h1, h2, h⟩
  · exact .inl h
  · exact .inr ⟨b, e, h1, h2, h.same hb h1 h2 (by omega) (Nat.le_refl _)⟩
theorem TroS.mono {w : World} {lo lo' B B' : Nat} {a : Option Addr} {k : Fo} (hlo : lo' ≤ lo) (hB : B ≤ B') (h : TroS w lo B a k) : TroS w lo' B' a k := by
  rcases h with h | ⟨b, e, h1, h2, h⟩
  · exact .inl h
  · exact .inr ⟨b, e, by omega, by omega, h.mono hB⟩

/-- What a kid of a tree's row is. -/
def TroAt (w : World) (k : Fo) (b o : Nat) (Ls : Nat → Nat) (i : Nat) : Prop :=
  ∃ x y s v kk a c, fdrop i k = .node x y (s, v) kk (fdrop (i + 1) k) ∧ (∃ z, w.cell? ⟨b, o + i * 3, none⟩ = some (.int .i64 z)) ∧ (∃ z, w.cell? ⟨b, o + i * 3 + 1, none⟩ = some (.int .i64 z)) ∧
    w.frozen? ⟨b, o + i * 3, none⟩ = false ∧ (w.frozen? ⟨b, o + i * 3 + 1, none⟩ = false ∧ w.frozen? ⟨b, o + i * 3 + 2, none⟩ = false) ∧ w.cell? ⟨b, o + i * 3 + 2, none⟩ = some (.slice a (flen kk) c) ∧ TroS w (Ls i) (Ls (i + 1)) a kk
theorem tro_of_all {w : World} : ∀ (k : Fo) (b o : Nat) (B : Nat) (Ls : Nat → Nat), (∀ i, i < flen k → Ls i ≤ Ls (i + 1)) → Ls (flen k) ≤ B → b < Ls 0 → (∀ i, i < flen k → TroAt w k b o Ls i) → Tro w k b o (Ls 0) B
  | .nil, _, _, _, _, _, h, _, _ => h
  | .node x y p kk r, b, o, B, Ls, h1, h2, h3, h => by
    obtain ⟨x', y', s, v, kk', a, c, e, d1, d2, d3, d4, d5, d6⟩ := h 0 (by simp [flen])
    simp only [fdrop, BT.node.injEq] at e
    obtain ⟨_, _, rfl, rfl, _⟩ := e
    have h01 : Ls 0 ≤ Ls 1 := h1 0 (by simp [flen])
    refine ⟨h3, by simpa using d1, by simpa using d2, by simpa using d3, by simpa using d4, Ls 1, a, c, h01, by simpa using d5, d6, ?_⟩
    have := tro_of_all r b (o + 3) B (fun i => Ls (i + 1)) (fun i hi => h1 (i + 1) (by simp [flen]; omega)) (by simpa [flen] using h2) (show b < Ls 1 by omega) fun i hi => by
      obtain ⟨x', y', s', v', kk', a', c', d0, d1, d2, d3, d4, d5, d6⟩ := h (i + 1) (by simp [flen]; omega)
      have e3' : o + (i + 1) * 3 = o + 3 + i * 3 := by omega
      rw [e3'] at d1 d2 d3 d4 d5
      exact ⟨x', y', s', v', kk', a', c', d0, d1, d2, d3, d4, d5, d6⟩
    exact this
end Go.Proofs.Ytdkcbbhkoibplaa

/-! OT: A term in memory of its own, one part of which is written over: rows whose blocks below lie apart, given by sets. Definitions and plain lemmas. -/
namespace Go.Proofs.Ytdkcbbhkoibplaa
open Go.RowKit Go.Deep

/-- The terms k lie in block b from offset o on; what is below them in blocks of P, the kids of one apart from those of the next. -/
def OwR (w : World) : Fo → Nat → Nat → (Nat → Prop) → Prop
  | .nil, _, _, _ => True
  | .node _ _ p k r, b, o, P => (w.cell? ⟨b, o, none⟩ = some (.int .i64 p.1) ∧ w.cell? ⟨b, o + 1, none⟩ = some (.int .i64 p.2)) ∧ (w.frozen? ⟨b, o, none⟩ = false ∧ w.frozen? ⟨b, o + 1, none⟩ = false ∧ w.frozen? ⟨b, o + 2, none⟩ = false) ∧
      ∃ (a : Option Addr) (c : Nat) (P1 P2 : Nat → Prop), (∀ x, P1 x → P x) ∧ (∀ x, P2 x → P x) ∧ (∀ x, P1 x → ¬ P2 x) ∧ w.cell? ⟨b, o + 2, none⟩ = some (.slice a (flen k) c) ∧
        (k = .nil ∨ ∃ (b' : Nat) (P3 : Nat → Prop), a = some ⟨b', 0, none⟩ ∧ P1 b' ∧ ¬ P3 b' ∧ (∀ x, P3 x → P1 x) ∧ OwR w k b' 0 P3) ∧ OwR w r b (o + 3) P2
/-- A slice's address at which the terms k lie so. -/
def OwS (w : World) (a : Option Addr) (k : Fo) (P : Nat → Prop) : Prop := k = .nil ∨ ∃ (b' : Nat) (P3 : Nat → Prop), a = some ⟨b', 0, none⟩ ∧ P b' ∧ ¬ P3 b' ∧ (∀ x, P3 x → P x) ∧ OwR w k b' 0 P3

/-- What stays. -/
theorem OwR.keep {w w' : World} : ∀ {k : Fo} {b o : Nat} {P : Nat → Prop}, (∀ q : Addr, (P q.block ∨ (q.block = b ∧ o ≤ q.off)) → w'.cell? q = w.cell? q ∧ w'.frozen? q = w.frozen? q) → OwR w k b o P → OwR w' k b o P
  | .nil, _, _, _, _, _ => trivial
  | .node _ _ p k r, b, o, P, hk, ⟨⟨c0, c1⟩, ⟨f0, f1, f2⟩, a, c, P1, P2, g1, g2, g3, g4, g5, g6⟩ => by
    have k0 := hk ⟨b, o, none⟩ (.inr ⟨rfl, Nat.le_refl _⟩)
    have k1 := hk ⟨b, o + 1, none⟩ (.inr ⟨rfl, by simp⟩)
    have k2 := hk ⟨b, o + 2, none⟩ (.inr ⟨rfl, by simp⟩)
    refine ⟨⟨k0.1.trans c0, k1.1.trans c1⟩, ⟨k0.2.trans f0, k1.2.trans f1, k2.2.trans f2⟩, a, c, P1, P2, g1, g2, g3, k2.1.trans g4, ?_, OwR.keep (fun q hq => hk q ?_) g6⟩
    · rcases g5 with g5 | ⟨b', P3, e, h1, h2, h3, h4⟩
      · exact .inl g5
      · refine .inr ⟨b', P3, e, h1, h2, h3, OwR.keep (fun q hq => hk q (.inl ?_)) h4⟩
        rcases hq with hq | ⟨hq, _⟩
        · exact g1 _ (h3 _ hq)
        · rw [hq]; exact g1 _ h1
    · rcases hq with hq | ⟨hq, ho⟩
      · exact .inl (g2 _ hq)
      · exact .inr ⟨hq, by omega⟩
theorem OwS.keep {w w' : World} {a : Option Addr} {k : Fo} {P : Nat → Prop} (hk : ∀ q : Addr, P q.block → w'.cell? q = w.cell? q ∧ w'.frozen? q = w.frozen? q) (h : OwS w a k P) : OwS w' a k P := by
  rcases h with h | ⟨b', P3, e, h1, h2, h3, h4⟩
  · exact .inl h
  · refine .inr ⟨b', P3, e, h1, h2, h3, h4.keep fun q hq => hk q ?_⟩
    rcases hq with hq | ⟨hq, _⟩
    · exact h3 _ hq
    · rw [hq]; exact h1
/-- Such rows are rows. -/
theorem OwR.row {w : World} {lo B : Nat} : ∀ {k : Fo} {b o : Nat} {P : Nat → Prop}, (∀ x, P x → lo ≤ x ∧ x < B) → lo ≤ b → b < B → OwR w k b o P → Row w lo B k b o
  | .nil, _, _, _, _, _, _, _ => trivial
  | .node _ _ p k r, b, o, P, hP, hl, hB, ⟨⟨c0, c1⟩, _, a, c, P1, P2, g1, g2, g3, g4, g5, g6⟩ => by
    refine ⟨hl, hB, c0, c1, ⟨a, c, g4, ?_⟩, OwR.row (fun x hx => hP x (g2 x hx)) hl hB g6⟩
    rcases g5 with g5 | ⟨b', P3, e, h1, h2, h3, h4⟩
    · exact .inl g5
    · have hb := hP b' (g1 _ h1)
      exact .inr ⟨b', 0, e, OwR.row (fun x hx => hP x (g1 _ (h3 x hx))) hb.1 hb.2 h4⟩
/-- Trees of one's own are such rows. -/
theorem ow_of_tr {w : World} {lo' B' : Nat} : ∀ {k : Fo} {b o lo B : Nat}, Tro w k b o lo B → Row w lo' B' k b o → OwR w k b o fun x => lo ≤ x ∧ x < B
  | .nil, _, _, _, _, _, _ => trivial
  | .node _ _ p k r, b, o, lo, B, ⟨h0, _, _, f0, f1, M, a, c, h5, h6, h7, h8⟩, ⟨_, _, c0, c1, ⟨a2, c2, d2, hk⟩, hr⟩ => by
    rw [h6] at d2
    simp only [Option.some.injEq, Value.slice.injEq, true_and] at d2
    obtain ⟨rfl, rfl⟩ := d2
    have hM := h8.le
    refine ⟨⟨c0, c1⟩, ⟨f0, f1.1, f1.2⟩, a, c, fun x => lo ≤ x ∧ x < M, fun x => M ≤ x ∧ x < B, fun x hx => ⟨hx.1, by omega⟩, fun x hx => ⟨by omega, hx.2⟩, fun x hx hx2 => by omega, h6, ?_, ow_of_tr h8 hr⟩
    rcases h7 with h7 | ⟨b', e, e1, e2, h7⟩
    · exact .inl h7
    · rcases hk with hk | ⟨b2, o2, e', hk⟩
      · exact .inl hk
      · rw [e] at e'
        simp only [Option.some.injEq, Addr.mk.injEq, and_true] at e'
        obtain ⟨rfl, rfl⟩ := e'
        exact .inr ⟨b', fun x => b' + 1 ≤ x ∧ x < M, e, ⟨e1, e2⟩, fun hx => by omega, fun x hx => ⟨by omega, hx.2⟩, ow_of_tr h7 hk⟩
theorem ow_of_trs {w : World} {lo B lo' B' : Nat} {a : Option Addr} {k : Fo} (ht : TroS w lo B a k) (hs : Sl w lo' B' a k) : OwS w a k fun x => lo ≤ x ∧ x < B := by
  rcases ht with ht | ⟨b, e, h1, h2, ht⟩
  · exact .inl ht
  · rcases hs with hs | ⟨b2, o2, e', hs⟩
    · exact .inl hs
    · rw [e] at e'
      simp only [Option.some.injEq, Addr.mk.injEq, and_true] at e'
      obtain ⟨rfl, rfl⟩ := e'
      exact .inr ⟨b, fun x => b + 1 ≤ x ∧ x < B, e, ⟨h1, h2⟩, fun hx => by omega, fun x hx => ⟨by omega, hx.2⟩, ow_of_tr ht hs⟩

/-- Where the way to a place leads from the term at (b, o). -/
def Way (w : World) : List Int → Nat → Nat → Nat → Nat → Prop
  | [], b, o, b', o' => b' = b ∧ o' = o
  | i :: ps, b, o, b', o' => ∃ b1 n c, w.cell? ⟨b, o + 2, none⟩ = some (.slice (some ⟨b1, 0, none⟩) n c) ∧ 0 ≤ i ∧ Way w ps b1 (i.toNat * 3) b' o'
theorem Way.snoc {w : World} : ∀ {ps : List Int} {b o b1 o1 b2 n c : Nat} {i : Int}, Way w ps b o b1 o1 → w.cell? ⟨b1, o1 + 2, none⟩ = some (.slice (some ⟨b2, 0, none⟩) n c) → 0 ≤ i → Way w (ps ++ [i]) b o b2 (i.toNat * 3)
  | [], _, _, _, _, b2, n, c, i, ⟨h1, h2⟩, hc, hi => by subst h1; subst h2; exact ⟨b2, n, c, hc, hi, rfl, rfl⟩
  | _ :: ps, _, _, _, _, _, _, _, _, ⟨b1, n, c, h1, h2, h3⟩, hc, hi => ⟨b1, n, c, h1, h2, Way.snoc h3 hc hi⟩

/-- The three cells of one part are written. -/
def st3 (w : World) (b o : Nat) (s v : Int) (a : Option Addr) (n c : Nat) : World := ((w.setCell ⟨b, o, none⟩ (.int .i64 s)).setCell ⟨b, o + 1, none⟩ (.int .i64 v)).setCell ⟨b, o + 2, none⟩ (.slice a n c)
theorem st3_far {w : World} {b o : Nat} {s v : Int} {a : Option Addr} {n c : Nat} {q : Addr} (h : q.block ≠ b ∨ q.off < o ∨ o + 3 ≤ q.off) : (st3 w b o s v a n c).cell? q = w.cell? q ∧ (st3 w b o s v a n c).frozen? q = w.frozen? q := by
  unfold st3
  refine ⟨?_, by rw [World.frozen?_setCell, World.frozen?_setCell, World.frozen?_setCell]⟩
  have hne : ∀ i, i ≤ 2 → (⟨b, o + i, none⟩ : Addr) ≠ q := fun i hi e => by
    subst e
    rcases h with h | h | h
    · exact h rfl
    · dsimp only at h; omega
    · dsimp only at h; omega
  rw [World.cell?_setCell_other _ _ _ _ (hne 2 (by omega)), World.cell?_setCell_other _ _ _ _ (hne 1 (by omega)), World.cell?_setCell_other _ _ _ _ (by simpa using hne 0 (by omega))]
theorem st3_in {w : World} {b o : Nat} {s v : Int} {a : Option Addr} {n c : Nat} {x y z : Value} (h0 : w.cell? ⟨b, o, none⟩ = some x) (h1 : w.cell? ⟨b, o + 1, none⟩ = some y) (h2 : w.cell? ⟨b, o + 2, none⟩ = some z) :
    (st3 w b o s v a n c).cell? ⟨b, o, none⟩ = some (.int .i64 s) ∧ (st3 w b o s v a n c).cell? ⟨b, o + 1, none⟩ = some (.int .i64 v) ∧ (st3 w b o s v a n c).cell? ⟨b, o + 2, none⟩ = some (.slice a n c) := by
  unfold st3
  refine ⟨?_, ?_, ?_⟩
  · rw [World.cell?_setCell_other _ _ _ _ (by simp), World.cell?_setCell_other _ _ _ _ (by simp)]; exact World.cell?_setCell_same _ _ _ h0
  · rw [World.cell?_setCell_other _ _ _ _ (by simp)]
    refine World.cell?_setCell_same (u := y) _ _ _ ?_
    rw [World.cell?_setCell_other _ _ _ _ (by simp)]; exact h1
  · refine World.cell?_setCell_same (u := z) _ _ _ ?_
    rw [World.cell?_setCell_other _ _ _ _ (by simp), World.cell?_setCell_other _ _ _ _ (by simp)]; exact h2
theorem st3_fr {w : World} {b o : Nat} {s v : Int} {a : Option Addr} {n c : Nat} {q : Addr} : (st3 w b o s v a n c).frozen? q = w.frozen? q := by
  unfold st3; rw [World.frozen?_setCell, World.frozen?_setCell, World.frozen?_setCell]

/-- A part is written over by a term in blocks apart: the whole is a term in memory of its own again, and what it is. -/
theorem OwR.put {w : World} {s2 v2 : Int} {a2 : Option Addr} {c2 : Nat} {k2 : Fo} {Q : Nat → Prop} {b' o' : Nat} (hq : OwS w a2 k2 Q) : ∀ (ps : List Int) (k : Fo) (b o : Nat) (P : Nat → Prop) (n : Nat) (x y : Nat) (s v : Int) (kk r : Fo) (z : Tm3), OwR w k b o P → ¬ P b → ¬ Q b → (∀ x, P x → ¬ Q x) →
    fdrop n k = .node x y (s, v) kk r → Way w ps b (o + n * 3) b' o' → fput s v kk ps (s2, v2, k2) = some z → (P b' ∨ (b' = b ∧ o ≤ o')) ∧ OwR (st3 w b' o' s2 v2 a2 (flen k2) c2) (fset k n z) b o fun x => P x ∨ Q x
  | ps, .nil, _, _, _, n, _, _, _, _, _, _, _, _, _, _, _, hd, _, _ => by cases n <;> simp [fdrop] at hd
  | ps, .node x0 y0 p k0 r0, b, o, P, n + 1, x, y, s, v, kk, r, z, ⟨⟨c0, c1⟩, ⟨f0, f1, f2⟩, a, c, P1, P2, g1, g2, g3, g4, g5, g6⟩, hPb, hQb, hPQ, hd, hw, hz => by
    have ih := OwR.put (c2 := c2) hq ps r0 b (o + 3) P2 n x y s v kk r z g6 (fun h => hPb (g2 _ h)) hQb (fun x hx => hPQ x (g2 x hx)) (by simpa [fdrop] using hd) (by rw [show o + 3 + n * 3 = o + (n + 1) * 3 from by omega]; exact hw) hz
    obtain ⟨hb', ih⟩ := ih
    have hne : ∀ x, P1 x → x ≠ b' := fun x hx e => by
      subst e
      rcases hb' with h | ⟨h, _⟩
      · exact g3 _ hx h
      · subst h; exact hPb (g1 _ hx)
    have hfar : b ≠ b' ∨ o + 2 < o' := by
      rcases hb' with h | ⟨_, h⟩
      · exact .inl fun e => by subst e; exact hPb (g2 _ h)
      · exact .inr (by omega)
    have kf : ∀ i, i ≤ 2 → (st3 w b' o' s2 v2 a2 (flen k2) c2).cell? ⟨b, o + i, none⟩ = w.cell? ⟨b, o + i, none⟩ ∧ (st3 w b' o' s2 v2 a2 (flen k2) c2).frozen? ⟨b, o + i, none⟩ = w.frozen? ⟨b, o + i, none⟩ := fun i hi => st3_far (by rcases hfar with h | h; exact .inl h; exact .inr (.inl (by show o + i < o'; omega)))
    refine ⟨?_, ⟨(kf 0 (by omega)).1.trans c0, (kf 1 (by omega)).1.trans c1⟩, ⟨(kf 0 (by omega)).2.trans f0, (kf 1 (by omega)).2.trans f1, (kf 2 (by omega)).2.trans f2⟩, a, c, P1, fun x => P2 x ∨ Q x, fun x hx => .inl (g1 x hx), fun x hx => hx.elim (fun h => .inl (g2 x h)) .inr, fun x hx hx2 => hx2.elim (g3 x hx) (hPQ x (g1 x hx)), (kf 2 (by omega)).1.trans g4, ?_, ih⟩
    · rcases hb' with h | ⟨h, h2⟩
      · exact .inl (g2 _ h)
      · exact .inr ⟨h, by omega⟩
    · rcases g5 with g5 | ⟨b3, P3, e, h1, h2, h3, h4⟩
      · exact .inl g5
      · refine .inr ⟨b3, P3, e, h1, h2, h3, h4.keep fun q hq2 => st3_far (.inl ?_)⟩
        rcases hq2 with hq2 | ⟨hq2, _⟩
        · exact hne _ (h3 _ hq2)
        · rw [hq2]; exact hne _ h1
  | [], .node x0 y0 p k0 r0, b, o, P, 0, x, y, s, v, kk, r, z, ⟨⟨c0, c1⟩, ⟨f0, f1, f2⟩, a, c, P1, P2, g1, g2, g3, g4, g5, g6⟩, hPb, hQb, hPQ, hd, hw, hz => by
    obtain ⟨e1, e2⟩ := hw
    rw [Nat.zero_mul, Nat.add_zero] at e2
    subst e1
    subst e2
    simp only [fput, Option.some.injEq] at hz
    subst hz
    obtain ⟨u0, u1, u2⟩ := st3_in (s := s2) (v := v2) (a := a2) (n := flen k2) (c := c2) c0 c1 g4
    have kQ : ∀ q : Addr, Q q.block → (st3 w b' o' s2 v2 a2 (flen k2) c2).cell? q = w.cell? q ∧ (st3 w b' o' s2 v2 a2 (flen k2) c2).frozen? q = w.frozen? q := fun q hq2 => st3_far (.inl fun e => by rw [e] at hq2; exact hQb hq2)
    refine ⟨.inr ⟨rfl, Nat.le_refl _⟩, ⟨u0, u1⟩, ⟨by rw [st3_fr]; exact f0, by rw [st3_fr]; exact f1, by rw [st3_fr]; exact f2⟩, a2, c2, Q, P2, fun x hx => .inr hx, fun x hx => .inl (g2 x hx), fun x hx hx2 => hPQ x (g2 x hx2) hx, u2, hq.keep kQ, g6.keep fun q hq2 => st3_far ?_⟩
    rcases hq2 with hq2 | ⟨_, hq2⟩
    · exact .inl fun e => by rw [e] at hq2; exact hPb (g2 _ hq2)
    · exact .inr (.inr hq2)
  | i :: ps, .node x0 y0 p k0 r0, b, o, P, 0, x, y, s, v, kk, r, z, ⟨⟨c0, c1⟩, ⟨f0, f1, f2⟩, a, c, P1, P2, g1, g2, g3, g4, g5, g6⟩, hPb, hQb, hPQ, hd, hw, hz => by
    simp only [fdrop, BT.node.injEq] at hd
    obtain ⟨rfl, rfl, rfl, rfl, rfl⟩ := hd
    obtain ⟨m, x1, y1, s1, v1, k1, z1, rfl, hm, hd1, hz1, rfl⟩ := fput_cons hz
    obtain ⟨b1, n1, d1, hc1, hi, hw⟩ := hw
    simp only [Nat.zero_mul, Nat.add_zero] at hc1
    rw [g4] at hc1
    simp only [Option.some.injEq, Value.slice.injEq] at hc1
    obtain ⟨rfl, _, _⟩ := hc1
    rcases g5 with g5 | ⟨b3, P3, e, h1, h2, h3, h4⟩
    · subst g5; simp [flen] at hm
    simp only [Option.some.injEq, Addr.mk.injEq, and_true] at e
    subst e
    have hb1 : b ≠ b1 := fun e => by subst e; exact hPb (g1 _ h1)
    have ih := OwR.put (c2 := c2) hq ps k0 b1 0 P3 m x1 y1 s1 v1 k1 _ z1 h4 h2 (hPQ _ (g1 _ h1)) (fun x hx => hPQ x (g1 _ (h3 x hx))) hd1 (by simpa using hw) hz1
    obtain ⟨hb', ih⟩ := ih
    have hb1' : P1 b' := by
      rcases hb' with h | ⟨h, _⟩
      · exact h3 _ h
      · rw [h]; exact h1
    have hbb : b ≠ b' := fun e => by subst e; exact hPb (g1 _ hb1')
    have kf : ∀ i, (st3 w b' o' s2 v2 a2 (flen k2) c2).cell? ⟨b, i, none⟩ = w.cell? ⟨b, i, none⟩ ∧ (st3 w b' o' s2 v2 a2 (flen k2) c2).frozen? ⟨b, i, none⟩ = w.frozen? ⟨b, i, none⟩ := fun i => st3_far (.inl hbb)
    refine ⟨.inl (g1 _ hb1'), ⟨(kf _).1.trans c0, (kf _).1.trans c1⟩, ⟨(kf _).2.trans f0, (kf _).2.trans f1, (kf _).2.trans f2⟩, some ⟨b1, 0, none⟩, c, fun x => P1 x ∨ Q x, P2, fun x hx => hx.elim (fun h => .inl (g1 x h)) .inr, fun x hx => .inl (g2 x hx), fun x hx hx2 => hx.elim (fun h => g3 x h hx2) (hPQ x (g2 x hx2)), ?_, ?_, g6.keep fun q hq2 => st3_far ?_⟩
    · rw [flen_set]; exact (kf _).1.trans g4
    · exact .inr ⟨b1, fun x => P3 x ∨ Q x, rfl, .inl h1, fun h => h.elim h2 (hPQ _ (g1 _ h1)), fun x hx => hx.elim (fun h => .inl (h3 x h)) .inr, ih⟩
    · rcases hq2 with hq2 | ⟨hq2, _⟩
      · exact .inl fun e => by rw [e] at hq2; exact g3 _ hb1' hq2
      · exact .inl fun e => hbb (by rw [← hq2, e])
termination_by ps k => (ps.length, fsz k)
decreasing_by all_goals (first | (simp_wf; simp only [fsz]; omega) | (simp_wf; omega) | (simp_wf; left; omega) | (simp_wf; right; simp only [fsz]; omega))
end Go.Proofs.Ytdkcbbhkoibplaa

/-! PO: partOf. -/
namespace Go.Proofs.Ytdkcbbhkoibplaa
open Go.RowKit Go.Deep

theorem OwR.drop {w : World} : ∀ (n : Nat) (k : Fo) (b o : Nat) (P : Nat → Prop), OwR w k b o P → ∃ P', OwR w (fdrop n k) b (o + n * 3) P' ∧ ∀ x, P' x → P x
  | 0, k, b, o, P, h => ⟨P, by simpa [fdrop] using h, fun _ h => h⟩
  | _ + 1, .nil, _, _, P, _ => ⟨P, trivial, fun _ h => h⟩
  | n + 1, .node _ _ _ _ r, b, o, _, ⟨_, _, _, _, _, P2, _, g2, _, _, _, h⟩ => by
    obtain ⟨P', h', hs⟩ := OwR.drop n r b (o + 3) P2 h
    exact ⟨P', by rw [fdrop, show o + (n + 1) * 3 = o + 3 + n * 3 from by omega]; exact h', fun x hx => g2 x (hs x hx)⟩
theorem fat_app : ∀ (p q : List Int) (s v : Int) (k : Fo), fat s v k (p ++ q) = (fat s v k p).bind fun x => fat x.1 x.2.1 x.2.2 q
  | [], _, _, _, _ => rfl
  | i :: p, q, s, v, k => by
    by_cases hi : 0 ≤ i ∧ i < (flen k : Int)
    · obtain ⟨b, o, s', v', kk, e⟩ := fdrop_succ i.toNat k (by omega)
      have hin : i = (i.toNat : Int) := by omega
      rw [List.cons_append, hin, fat_step (by omega) e, fat_step (by omega) e]
      exact fat_app p q s' v' kk
    · rw [List.cons_append, fat_out hi, fat_out hi]; rfl
theorem take_drop_at {place : List Int} {j : Nat} {x : Int} (h : place[j]? = some x) : place = place.take j ++ x :: place.drop (j + 1) := by
  obtain ⟨hj, rfl⟩ := List.getElem?_eq_some_iff.1 h
  rw [← List.drop_eq_getElem_cons hj, List.take_append_drop]
theorem take_next {place : List Int} {j : Nat} {x : Int} (h : place[j]? = some x) : place.take (j + 1) = place.take j ++ [x] := by rw [List.take_add_one, h]; rfl

def PoPost (P0 : Nat → Prop) (s v : Int) (k : Fo) (b o : Nat) (place : List Int) (w : World) (e : Ending) (w' : World) : Prop :=
  w' = w ∧ ((fat s v k place = none ∧ e = .returned (.pointer none)) ∨ ∃ b' o' s' v' k' x y r P, fat s v k place = some (s', v', k') ∧ e = .returned (.pointer (some ⟨b', o', none⟩)) ∧ Way w place b o b' o' ∧ OwR w (.node x y (s', v') k' r) b' o' P ∧ ∀ z, P z → P0 z)

set_option maxRecDepth 100000 in
set_option maxHeartbeats 1000000 in
theorem partOf_any (s v : Int) (k : Fo) (x0 y0 : Nat) (r0 : Fo) (b o : Nat) (P : Nat → Prop) (pA : Option Addr) (pC : Nat) (place : List Int) (w : World) (ho : OwR w (.node x0 y0 (s, v) k r0) b o P) (hp : ISl w 0 w.heap.size pA place) (hpl : place.length ≤ 1048576) :
    Calls Try.prog 102 #[.pointer (some ⟨b, o, none⟩), .slice pA place.length pC] w (PoPost P s v k b o place w) := by
  have HO := Lib.hid ho
  have HP := Lib.hid hp
  clear ho hp
  go_enter Try.func102, Try.ntmps102
  go_wp2_with fail
  go_loopw [0, 9] (fun t i wr => wr = w ∧ ∃ (j b' o' : Nat) (s' v' : Int) (k' : Fo) (x y : Nat) (r : Fo) (P' : Nat → Prop), t = .pointer (some ⟨b', o', none⟩) ∧ i = .int .i64 j ∧ j ≤ place.length ∧ Hid (Way w (place.take j) b o b' o') ∧ Hid (fat s v k (place.take j) = some (s', v', k')) ∧ Hid (OwR w (.node x y (s', v') k' r) b' o' P' ∧ ∀ z, P' z → P z)) (fun _ i _ => place.length - (intOf i).toNat)
  case atStart => exact ⟨rfl, 0, b, o, s, v, k, x0, y0, r0, P, rfl, rfl, Nat.zero_le _, ⟨rfl, rfl⟩, rfl, HO.out, fun _ h => h⟩
  case round =>
    obtain ⟨rfl, j, b', o', s', v', k', x, y, r, P', rfl, rfl, hj, HW, HF, HR⟩ := hrel
    by_cases hlt : j < place.length
    · obtain ⟨i, hi⟩ : ∃ i, place[j]? = some i := ⟨place[j], List.getElem?_eq_getElem hlt⟩
      rcases HP.out with hpn | ⟨pb, po, rfl, _, _, hc⟩
      · rw [hpn] at hlt; simp at hlt
      have hcj := hc j i hi
      have HI := Lib.hid hi
      clear hc hi
      have g1 : (0 : Int) ≤ (j : Int) := by omega
      have g2 : (j : Int) < (place.length : Int) := by omega
      obtain ⟨⟨⟨c0, c1⟩, _, a, c, P1, P2, g10, _, _, c2, hk, _⟩, hsub⟩ := HR.out
      by_cases hin : 0 ≤ i ∧ i < (flen k' : Int)
      · obtain ⟨n, rfl⟩ : ∃ n : Nat, i = n := ⟨i.toNat, by omega⟩
        have hn : n < flen k' := by omega
        rcases hk with hk | ⟨b1, P3, rfl, _, _, g13, hrow⟩
        · subst hk; simp [flen] at hn
        obtain ⟨P4, hdr, h4⟩ := hrow.drop n
        obtain ⟨x', y', s1, v1, kk, hd⟩ := fdrop_succ n k' hn
        rw [hd] at hdr
        have HR2 := Lib.hid (And.intro hdr (fun z hz => hsub z (g10 z (g13 z (h4 z hz)))))
        have d1 : decide ((n : Int) < 0) = false := by simp
        have d2 : decide ((n : Int) ≥ (flen k' : Int)) = false := by simp; omega
        have g3 : (0 : Int) ≤ (n : Int) := by omega
        have g4 : (n : Int) < (flen k' : Int) := by omega
        have HW2 : Hid (Way wr (place.take (j + 1)) b o b1 (n * 3)) := by
          rw [Hid, take_next HI.out]
          have := HW.out.snoc c2 (i := (n : Int)) (by omega)
          simpa using this
        have HF2 : Hid (fat s v k (place.take (j + 1)) = some (s1, v1, kk)) := by
          rw [Hid, take_next HI.out, fat_app, HF.out]
          show fat s' v' k' [(n : Int)] = _
          rw [fat_step hn hd]; rfl
        clear hrow hdr hd c0 c1 hin h4 g13 hsub g10
        go_wp2_with fail
        go_roundw
        case rel => exact ⟨by trivial, j + 1, b1, n * 3, s1, v1, kk, x', y', _, P4, rfl, by go_num, by omega, HW2, HF2, by have := HR2.out.1; rwa [Nat.zero_add] at this, HR2.out.2⟩
        case measure => simp [intOf]; omega
      · have HN : Hid (fat s v k place = none) := by
          rw [Hid, take_drop_at HI.out, fat_app, HF.out]
          exact fat_out (s := s') (v := v') hin
        clear hk hsub g10
        by_cases hneg : i < 0
        · have d1 : decide (i < 0) = true := by simpa using hneg
          go_wp2_with fail
          go_ret
          exact ⟨rfl, .inl ⟨HN.out, rfl⟩⟩
        · have d1 : decide (i < 0) = false := by simpa using hneg
          have d2 : decide (i ≥ (flen k' : Int)) = true := by simp; omega
          go_wp2_with fail
          go_ret
          exact ⟨rfl, .inl ⟨HN.out, rfl⟩⟩
    · obtain rfl : j = place.length := by omega
      have HW2 : Hid (Way wr place b o b' o') := by have := HW.out; rwa [List.take_length] at this
      have HF2 : Hid (fat s v k place = some (s', v', k')) := by have := HF.out; rwa [List.take_length] at this
      go_wp2_with fail
      go_ret
      exact ⟨rfl, .inr ⟨b', o', s', v', k', x, y, r, P', HF2.out, rfl, HW2.out, HR.out.1, HR.out.2⟩⟩
end Go.Proofs.Ytdkcbbhkoibplaa
