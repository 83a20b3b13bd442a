/- Several texts in one: OT, PO, A2o. -/
import Derived.Test.YtdkcbbhkoibplaaKLk22
import Derived.Test.YtdkcbbhkoibplaaKLk6
import Derived.Test.YtdkcbbhkoibplaaKLk7

/-! OT: A term in memory of its own, one part of which is written over: rows whose blocks below lie apart, given by sets. Definitions and plain lemmas. -/
namespace Go.Proofs.Ytdkcbbhkoibplaa
open Go.RowKit Go.Deep

/-- The terms k lie in block b from offset o on; what is below them in blocks of P, the kids of one apart from those of the next. -/
def OwR (w : World) : Fo → Nat → Nat → (Nat → Prop) → Prop
  | .nil, _, _, _ => True
  | .node _ _ p k r, b, o, P => (w.cell? ⟨b, o, none⟩ = some (.int .i64 p.1) ∧ w.cell? ⟨b, o + 1, none⟩ = some (.int .i64 p.2)) ∧ (w.frozen? ⟨b, o, none⟩ = false ∧ w.frozen? ⟨b, o + 1, none⟩ = false ∧ w.frozen? ⟨b, o + 2, none⟩ = false) ∧
      ∃ (a : Option Addr) (c : Nat) (P1 P2 : Nat → Prop), (∀ x, P1 x → P x) ∧ (∀ x, P2 x → P x) ∧ (∀ x, P1 x → ¬ P2 x) ∧ w.cell? ⟨b, o + 2, none⟩ = some (.slice a (flen k) c) ∧
        (k = .nil ∨ ∃ (b' : Nat) (P3 : Nat → Prop), a = some ⟨b', 0, none⟩ ∧ P1 b' ∧ ¬ P3 b' ∧ (∀ x, P3 x → P1 x) ∧ OwR w k b' 0 P3) ∧ OwR w r b (o + 3) P2
/-- A slice's address at which the terms k lie so. -/
def OwS (w : World) (a : Option Addr) (k : Fo) (P : Nat → Prop) : Prop := k = .nil ∨ ∃ (b' : Nat) (P3 : Nat → Prop), a = some ⟨b', 0, none⟩ ∧ P b' ∧ ¬ P3 b' ∧ (∀ x, P3 x → P x) ∧ OwR w k b' 0 P3

/-- What stays. -/
theorem OwR.keep {w w' : World} : ∀ {k : Fo} {b o : Nat} {P : Nat → Prop}, (∀ q : Addr, (P q.block ∨ (q.block = b ∧ o ≤ q.off)) → w'.cell? q = w.cell? q ∧ w'.frozen? q = w.frozen? q) → OwR w k b o P → OwR w' k b o P
  | .nil, _, _, _, _, _ => trivial
  | .node _ _ p k r, b, o, P, hk, ⟨⟨c0, c1⟩, ⟨f0, f1, f2⟩, a, c, P1, P2, g1, g2, g3, g4, g5, g6⟩ => by
    have k0 := hk ⟨b, o, none⟩ (.inr ⟨rfl, Nat.le_refl _⟩)
    have k1 := hk ⟨b, o + 1, none⟩ (.inr ⟨rfl, by simp⟩)
    have k2 := hk ⟨b, o + 2, none⟩ (.inr ⟨rfl, by simp⟩)
    refine ⟨⟨k0.1.trans c0, k1.1.trans c1⟩, ⟨k0.2.trans f0, k1.2.trans f1, k2.2.trans f2⟩, a, c, P1, P2, g1, g2, g3, k2.1.trans g4, ?_, OwR.keep (fun q hq => hk q ?_) g6⟩
    · rcases g5 with g5 | ⟨b', P3, e, h1, h2, h3, h4⟩
      · exact .inl g5
      · refine .inr ⟨b', P3, e, h1, h2, h3, OwR.keep (fun q hq => hk q (.inl ?_)) h4⟩
        rcases hq with hq | ⟨hq, _⟩
        · exact g1 _ (h3 _ hq)
        · rw [hq]; exact g1 _ h1
    · rcases hq with hq | ⟨hq, ho⟩
      · exact .inl (g2 _ hq)
      · exact .inr ⟨hq, by omega⟩
theorem OwS.keep {w w' : World} {a : Option Addr} {k : Fo} {P : Nat → Prop} (hk : ∀ q : Addr, P q.block → w'.cell? q = w.cell? q ∧ w'.frozen? q = w.frozen? q) (h : OwS w a k P) : OwS w' a k P := by
  rcases h with h | ⟨b', P3, e, h1, h2, h3, h4⟩
  · exact .inl h
  · refine .inr ⟨b', P3, e, h1, h2, h3, h4.keep fun q hq => hk q ?_⟩
    rcases hq with hq | ⟨hq, _⟩
    · exact h3 _ hq
    · rw [hq]; exact h1
/-- Such rows are rows. -/
theorem OwR.row {w : World} {lo B : Nat} : ∀ {k : Fo} {b o : Nat} {P : Nat → Prop}, (∀ x, P x → lo ≤ x ∧ x < B) → lo ≤ b → b < B → OwR w k b o P → Row w lo B k b o
  | .nil, _, _, _, _, _, _, _ => trivial
  | .node _ _ p k r, b, o, P, hP, hl, hB, ⟨⟨c0, c1⟩, _, a, c, P1, P2, g1, g2, g3, g4, g5, g6⟩ => by
    refine ⟨hl, hB, c0, c1, ⟨a, c, g4, ?_⟩, OwR.row (fun x hx => hP x (g2 x hx)) hl hB g6⟩
    rcases g5 with g5 | ⟨b', P3, e, h1, h2, h3, h4⟩
    · exact .inl g5
    · have hb := hP b' (g1 _ h1)
      exact .inr ⟨b', 0, e, OwR.row (fun x hx => hP x (g1 _ (h3 x hx))) hb.1 hb.2 h4⟩
/-- Trees of one's own are such rows. -/
theorem ow_of_tr {w : World} {lo' B' : Nat} : ∀ {k : Fo} {b o lo B : Nat}, Tro w k b o lo B → Row w lo' B' k b o → OwR w k b o fun x => lo ≤ x ∧ x < B
  | .nil, _, _, _, _, _, _ => trivial
  | .node _ _ p k r, b, o, lo, B, ⟨h0, _, _, f0, f1, M, a, c, h5, h6, h7, h8⟩, ⟨_, _, c0, c1, ⟨a2, c2, d2, hk⟩, hr⟩ => by
    rw [h6] at d2
    simp only [Option.some.injEq, Value.slice.injEq, true_and] at d2
    obtain ⟨rfl, rfl⟩ := d2
    have hM := h8.le
    refine ⟨⟨c0, c1⟩, ⟨f0, f1.1, f1.2⟩, a, c, fun x => lo ≤ x ∧ x < M, fun x => M ≤ x ∧ x < B, fun x hx => ⟨hx.1, by omega⟩, fun x hx => ⟨by omega, hx.2⟩, fun x hx hx2 => by omega, h6, ?_, ow_of_tr h8 hr⟩
    rcases h7 with h7 | ⟨b', e, e1, e2, h7⟩
    · exact .inl h7
    · rcases hk with hk | ⟨b2, o2, e', hk⟩
      · exact .inl hk
      · rw [e] at e'
        simp only [Option.some.injEq, Addr.mk.injEq, and_true] at e'
        obtain ⟨rfl, rfl⟩ := e'
        exact .inr ⟨b', fun x => b' + 1 ≤ x ∧ x < M, e, ⟨e1, e2⟩, fun hx => by omega, fun x hx => ⟨by omega, hx.2⟩, ow_of_tr h7 hk⟩
theorem ow_of_trs {w : World} {lo B lo' B' : Nat} {a : Option Addr} {k : Fo} (ht : TroS w lo B a k) (hs : Sl w lo' B' a k) : OwS w a k fun x => lo ≤ x ∧ x < B := by
  rcases ht with ht | ⟨b, e, h1, h2, ht⟩
  · exact .inl ht
  · rcases hs with hs | ⟨b2, o2, e', hs⟩
    · exact .inl hs
    · rw [e] at e'
      simp only [Option.some.injEq, Addr.mk.injEq, and_true] at e'
      obtain ⟨rfl, rfl⟩ := e'
      exact .inr ⟨b, fun x => b + 1 ≤ x ∧ x < B, e, ⟨h1, h2⟩, fun hx => by omega, fun x hx => ⟨by omega, hx.2⟩, ow_of_tr ht hs⟩

/-- Where the way to a place leads from the term at (b, o). -/
def Way (w : World) : List Int → Nat → Nat → Nat → Nat → Prop
  | [], b, o, b', o' => b' = b ∧ o' = o
  | i :: ps, b, o, b', o' => ∃ b1 n c, w.cell? ⟨b, o + 2, none⟩ = some (.slice (some ⟨b1, 0, none⟩) n c) ∧ 0 ≤ i ∧ Way w ps b1 (i.toNat * 3) b' o'
theorem Way.snoc {w : World} : ∀ {ps : List Int} {b o b1 o1 b2 n c : Nat} {i : Int}, Way w ps b o b1 o1 → w.cell? ⟨b1, o1 + 2, none⟩ = some (.slice (some ⟨b2, 0, none⟩) n c) → 0 ≤ i → Way w (ps ++ [i]) b o b2 (i.toNat * 3)
  | [], _, _, _, _, b2, n, c, i, ⟨h1, h2⟩, hc, hi => by subst h1; subst h2; exact ⟨b2, n, c, hc, hi, rfl, rfl⟩
  | _ :: ps, _, _, _, _, _, _, _, _, ⟨b1, n, c, h1, h2, h3⟩, hc, hi => ⟨b1, n, c, h1, h2, Way.snoc h3 hc hi⟩

/-- The three cells of one part are written. -/
def st3 (w : World) (b o : Nat) (s v : Int) (a : Option Addr) (n c : Nat) : World := ((w.setCell ⟨b, o, none⟩ (.int .i64 s)).setCell ⟨b, o + 1, none⟩ (.int .i64 v)).setCell ⟨b, o + 2, none⟩ (.slice a n c)
theorem st3_far {w : World} {b o : Nat} {s v : Int} {a : Option Addr} {n c : Nat} {q : Addr} (h : q.block ≠ b ∨ q.off < o ∨ o + 3 ≤ q.off) : (st3 w b o s v a n c).cell? q = w.cell? q ∧ (st3 w b o s v a n c).frozen? q = w.frozen? q := by
  unfold st3
  refine ⟨?_, by rw [World.frozen?_setCell, World.frozen?_setCell, World.frozen?_setCell]⟩
  have hne : ∀ i, i ≤ 2 → (⟨b, o + i, none⟩ : Addr) ≠ q := fun i hi e => by
    subst e
    rcases h with h | h | h
    · exact h rfl
    · dsimp only at h; omega
    · dsimp only at h; omega
  rw [World.cell?_setCell_other _ _ _ _ (hne 2 (by omega)), World.cell?_setCell_other _ _ _ _ (hne 1 (by omega)), World.cell?_setCell_other _ _ _ _ (by simpa using hne 0 (by omega))]
theorem st3_in {w : World} {b o : Nat} {s v : Int} {a : Option Addr} {n c : Nat} {x y z : Value} (h0 : w.cell? ⟨b, o, none⟩ = some x) (h1 : w.cell? ⟨b, o + 1, none⟩ = some y) (h2 : w.cell? ⟨b, o + 2, none⟩ = some z) :
    (st3 w b o s v a n c).cell? ⟨b, o, none⟩ = some (.int .i64 s) ∧ (st3 w b o s v a n c).cell? ⟨b, o + 1, none⟩ = some (.int .i64 v) ∧ (st3 w b o s v a n c).cell? ⟨b, o + 2, none⟩ = some (.slice a n c) := by
  unfold st3
  refine ⟨?_, ?_, ?_⟩
  · rw [World.cell?_setCell_other _ _ _ _ (by simp), World.cell?_setCell_other _ _ _ _ (by simp)]; exact World.cell?_setCell_same _ _ _ h0
  · rw [World.cell?_setCell_other _ _ _ _ (by simp)]
    refine World.cell?_setCell_same (u := y) _ _ _ ?_
    rw [World.cell?_setCell_other _ _ _ _ (by simp)]; exact h1
  · refine World.cell?_setCell_same (u := z) _ _ _ ?_
    rw [World.cell?_setCell_other _ _ _ _ (by simp), World.cell?_setCell_other _ _ _ _ (by simp)]; exact h2
theorem st3_fr {w : World} {b o : Nat} {s v : Int} {a : Option Addr} {n c : Nat} {q : Addr} : (st3 w b o s v a n c).frozen? q = w.frozen? q := by
  unfold st3; rw [World.frozen?_setCell, World.frozen?_setCell, World.frozen?_setCell]

/-- A part is written over by a term in blocks apart: the whole is a term in memory of its own again, and what it is. -/
theorem OwR.put {w : World} {s2 v2 : Int} {a2 : Option Addr} {c2 : Nat} {k2 : Fo} {Q : Nat → Prop} {b' o' : Nat} (hq : OwS w a2 k2 Q) : ∀ (ps : List Int) (k : Fo) (b o : Nat) (P : Nat → Prop) (n : Nat) (x y : Nat) (s v : Int) (kk r : Fo) (z : Tm3), OwR w k b o P → ¬ P b → ¬ Q b → (∀ x, P x → ¬ Q x) →
    fdrop n k = .node x y (s, v) kk r → Way w ps b (o + n * 3) b' o' → fput s v kk ps (s2, v2, k2) = some z → (P b' ∨ (b' = b ∧ o ≤ o')) ∧ OwR (st3 w b' o' s2 v2 a2 (flen k2) c2) (fset k n z) b o fun x => P x ∨ Q x
  | ps, .nil, _, _, _, n, _, _, _, _, _, _, _, _, _, _, _, hd, _, _ => by cases n <;> simp [fdrop] at hd
  | ps, .node x0 y0 p k0 r0, b, o, P, n + 1, x, y, s, v, kk, r, z, ⟨⟨c0, c1⟩, ⟨f0, f1, f2⟩, a, c, P1, P2, g1, g2, g3, g4, g5, g6⟩, hPb, hQb, hPQ, hd, hw, hz => by
    have ih := OwR.put (c2 := c2) hq ps r0 b (o + 3) P2 n x y s v kk r z g6 (fun h => hPb (g2 _ h)) hQb (fun x hx => hPQ x (g2 x hx)) (by simpa [fdrop] using hd) (by rw [show o + 3 + n * 3 = o + (n + 1) * 3 from by omega]; exact hw) hz
    obtain ⟨hb', ih⟩ := ih
    have hne : ∀ x, P1 x → x ≠ b' := fun x hx e => by
      subst e
      rcases hb' with h | ⟨h, _⟩
      · exact g3 _ hx h
      · subst h; exact hPb (g1 _ hx)
    have hfar : b ≠ b' ∨ o + 2 < o' := by
      rcases hb' with h | ⟨_, h⟩
      · exact .inl fun e => by subst e; exact hPb (g2 _ h)
      · exact .inr (by omega)
    have kf : ∀ i, i ≤ 2 → (st3 w b' o' s2 v2 a2 (flen k2) c2).cell? ⟨b, o + i, none⟩ = w.cell? ⟨b, o + i, none⟩ ∧ (st3 w b' o' s2 v2 a2 (flen k2) c2).frozen? ⟨b, o + i, none⟩ = w.frozen? ⟨b, o + i, none⟩ := fun i hi => st3_far (by rcases hfar with h | h; exact .inl h; exact .inr (.inl (by show o + i < o'; omega)))
    refine ⟨?_, ⟨(kf 0 (by omega)).1.trans c0, (kf 1 (by omega)).1.trans c1⟩, ⟨(kf 0 (by omega)).2.trans f0, (kf 1 (by omega)).2.trans f1, (kf 2 (by omega)).2.trans f2⟩, a, c, P1, fun x => P2 x ∨ Q x, fun x hx => .inl (g1 x hx), fun x hx => hx.elim (fun h => .inl (g2 x h)) .inr, fun x hx hx2 => hx2.elim (g3 x hx) (hPQ x (g1 x hx)), (kf 2 (by omega)).1.trans g4, ?_, ih⟩
    · rcases hb' with h | ⟨h, h2⟩
      · exact .inl (g2 _ h)
      · exact .inr ⟨h, by omega⟩
    · rcases g5 with g5 | ⟨b3, P3, e, h1, h2, h3, h4⟩
      · exact .inl g5
      · refine .inr ⟨b3, P3, e, h1, h2, h3, h4.keep fun q hq2 => st3_far (.inl ?_)⟩
        rcases hq2 with hq2 | ⟨hq2, _⟩
        · exact hne _ (h3 _ hq2)
        · rw [hq2]; exact hne _ h1
  | [], .node x0 y0 p k0 r0, b, o, P, 0, x, y, s, v, kk, r, z, ⟨⟨c0, c1⟩, ⟨f0, f1, f2⟩, a, c, P1, P2, g1, g2, g3, g4, g5, g6⟩, hPb, hQb, hPQ, hd, hw, hz => by
    obtain ⟨e1, e2⟩ := hw
    rw [Nat.zero_mul, Nat.add_zero] at e2
    subst e1
    subst e2
    simp only [fput, Option.some.injEq] at hz
    subst hz
    obtain ⟨u0, u1, u2⟩ := st3_in (s := s2) (v := v2) (a := a2) (n := flen k2) (c := c2) c0 c1 g4
    have kQ : ∀ q : Addr, Q q.block → (st3 w b' o' s2 v2 a2 (flen k2) c2).cell? q = w.cell? q ∧ (st3 w b' o' s2 v2 a2 (flen k2) c2).frozen? q = w.frozen? q := fun q hq2 => st3_far (.inl fun e => by rw [e] at hq2; exact hQb hq2)
    refine ⟨.inr ⟨rfl, Nat.le_refl _⟩, ⟨u0, u1⟩, ⟨by rw [st3_fr]; exact f0, by rw [st3_fr]; exact f1, by rw [st3_fr]; exact f2⟩, a2, c2, Q, P2, fun x hx => .inr hx, fun x hx => .inl (g2 x hx), fun x hx hx2 => hPQ x (g2 x hx2) hx, u2, hq.keep kQ, g6.keep fun q hq2 => st3_far ?_⟩
    rcases hq2 with hq2 | ⟨_, hq2⟩
    · exact .inl fun e => by rw [e] at hq2; exact hPb (g2 _ hq2)
    · exact .inr (.inr hq2)
  | i :: ps, .node x0 y0 p k0 r0, b, o, P, 0, x, y, s, v, kk, r, z, ⟨⟨c0, c1⟩, ⟨f0, f1, f2⟩, a, c, P1, P2, g1, g2, g3, g4, g5, g6⟩, hPb, hQb, hPQ, hd, hw, hz => by
    simp only [fdrop, BT.node.injEq] at hd
    obtain ⟨rfl, rfl, rfl, rfl, rfl⟩ := hd
    obtain ⟨m, x1, y1, s1, v1, k1, z1, rfl, hm, hd1, hz1, rfl⟩ := fput_cons hz
    obtain ⟨b1, n1, d1, hc1, hi, hw⟩ := hw
    simp only [Nat.zero_mul, Nat.add_zero] at hc1
    rw [g4] at hc1
    simp only [Option.some.injEq, Value.slice.injEq] at hc1
    obtain ⟨rfl, _, _⟩ := hc1
    rcases g5 with g5 | ⟨b3, P3, e, h1, h2, h3, h4⟩
    · subst g5; simp [flen] at hm
    simp only [Option.some.injEq, Addr.mk.injEq, and_true] at e
    subst e
    have hb1 : b ≠ b1 := fun e => by subst e; exact hPb (g1 _ h1)
    have ih := OwR.put (c2 := c2) hq ps k0 b1 0 P3 m x1 y1 s1 v1 k1 _ z1 h4 h2 (hPQ _ (g1 _ h1)) (fun x hx => hPQ x (g1 _ (h3 x hx))) hd1 (by simpa using hw) hz1
    obtain ⟨hb', ih⟩ := ih
    have hb1' : P1 b' := by
      rcases hb' with h | ⟨h, _⟩
      · exact h3 _ h
      · rw [h]; exact h1
    have hbb : b ≠ b' := fun e => by subst e; exact hPb (g1 _ hb1')
    have kf : ∀ i, (st3 w b' o' s2 v2 a2 (flen k2) c2).cell? ⟨b, i, none⟩ = w.cell? ⟨b, i, none⟩ ∧ (st3 w b' o' s2 v2 a2 (flen k2) c2).frozen? ⟨b, i, none⟩ = w.frozen? ⟨b, i, none⟩ := fun i => st3_far (.inl hbb)
    refine ⟨.inl (g1 _ hb1'), ⟨(kf _).1.trans c0, (kf _).1.trans c1⟩, ⟨(kf _).2.trans f0, (kf _).2.trans f1, (kf _).2.trans f2⟩, some ⟨b1, 0, none⟩, c, fun x => P1 x ∨ Q x, P2, fun x hx => hx.elim (fun h => .inl (g1 x h)) .inr, fun x hx => .inl (g2 x hx), fun x hx hx2 => hx.elim (fun h => g3 x h hx2) (hPQ x (g2 x hx2)), ?_, ?_, g6.keep fun q hq2 => st3_far ?_⟩
    · rw [flen_set]; exact (kf _).1.trans g4
    · exact .inr ⟨b1, fun x => P3 x ∨ Q x, rfl, .inl h1, fun h => h.elim h2 (hPQ _ (g1 _ h1)), fun x hx => hx.elim (fun h => .inl (h3 x h)) .inr, ih⟩
    · rcases hq2 with hq2 | ⟨hq2, _⟩
      · exact .inl fun e => by rw [e] at hq2; exact g3 _ hb1' hq2
      · exact .inl fun e => hbb (by rw [← hq2, e])
termination_by ps k => (ps.length, fsz k)
decreasing_by all_goals (first | (simp_wf; simp only [fsz]; omega) | (simp_wf; omega) | (simp_wf; left; omega) | (simp_wf; right; simp only [fsz]; omega))
end Go.Proofs.Ytdkcbbhkoibplaa

/-! PO: partOf. -/
namespace Go.Proofs.Ytdkcbbhkoibplaa
open Go.RowKit Go.Deep

theorem OwR.drop {w : World} : ∀ (n : Nat) (k : Fo) (b o : Nat) (P : Nat → Prop), OwR w k b o P → ∃ P', OwR w (fdrop n k) b (o + n * 3) P' ∧ ∀ x, P' x → P x
  | 0, k, b, o, P, h => ⟨P, by simpa [fdrop] using h, fun _ h => h⟩
  | _ + 1, .nil, _, _, P, _ => ⟨P, trivial, fun _ h => h⟩
  | n + 1, .node _ _ _ _ r, b, o, _, ⟨_, _, _, _, _, P2, _, g2, _, _, _, h⟩ => by
    obtain ⟨P', h', hs⟩ := OwR.drop n r b (o + 3) P2 h
    exact ⟨P', by rw [fdrop, show o + (n + 1) * 3 = o + 3 + n * 3 from by omega]; exact h', fun x hx => g2 x (hs x hx)⟩
theorem fat_app : ∀ (p q : List Int) (s v : Int) (k : Fo), fat s v k (p ++ q) = (fat s v k p).bind fun x => fat x.1 x.2.1 x.2.2 q
  | [], _, _, _, _ => rfl
  | i :: p, q, s, v, k => by
    by_cases hi : 0 ≤ i ∧ i < (flen k : Int)
    · obtain ⟨b, o, s', v', kk, e⟩ := fdrop_succ i.toNat k (by omega)
      have hin : i = (i.toNat : Int) := by omega
      rw [List.cons_append, hin, fat_step (by omega) e, fat_step (by omega) e]
      exact fat_app p q s' v' kk
    · rw [List.cons_append, fat_out hi, fat_out hi]; rfl
theorem take_drop_at {place : List Int} {j : Nat} {x : Int} (h : place[j]? = some x) : place = place.take j ++ x :: place.drop (j + 1) := by
  obtain ⟨hj, rfl⟩ := List.getElem?_eq_some_iff.1 h
  rw [← List.drop_eq_getElem_cons hj, List.take_append_drop]
theorem take_next {place : List Int} {j : Nat} {x : Int} (h : place[j]? = some x) : place.take (j + 1) = place.take j ++ [x] := by rw [List.take_add_one, h]; rfl

def PoPost (P0 : Nat → Prop) (s v : Int) (k : Fo) (b o : Nat) (place : List Int) (w : World) (e : Ending) (w' : World) : Prop :=
  w' = w ∧ ((fat s v k place = none ∧ e = .returned (.pointer none)) ∨ ∃ b' o' s' v' k' x y r P, fat s v k place = some (s', v', k') ∧ e = .returned (.pointer (some ⟨b', o', none⟩)) ∧ Way w place b o b' o' ∧ OwR w (.node x y (s', v') k' r) b' o' P ∧ ∀ z, P z → P0 z)

set_option maxRecDepth 100000 in
set_option maxHeartbeats 1000000 in
theorem partOf_any (s v : Int) (k : Fo) (x0 y0 : Nat) (r0 : Fo) (b o : Nat) (P : Nat → Prop) (pA : Option Addr) (pC : Nat) (place : List Int) (w : World) (ho : OwR w (.node x0 y0 (s, v) k r0) b o P) (hp : ISl w 0 w.heap.size pA place) (hpl : place.length ≤ 1048576) :
    Calls Try.prog 102 #[.pointer (some ⟨b, o, none⟩), .slice pA place.length pC] w (PoPost P s v k b o place w) := by
  have HO := Lib.hid ho
  have HP := Lib.hid hp
  clear ho hp
  go_enter Try.func102, Try.ntmps102
  go_wp2_with fail
  go_loopw [0, 9] (fun t i wr => wr = w ∧ ∃ (j b' o' : Nat) (s' v' : Int) (k' : Fo) (x y : Nat) (r : Fo) (P' : Nat → Prop), t = .pointer (some ⟨b', o', none⟩) ∧ i = .int .i64 j ∧ j ≤ place.length ∧ Hid (Way w (place.take j) b o b' o') ∧ Hid (fat s v k (place.take j) = some (s', v', k')) ∧ Hid (OwR w (.node x y (s', v') k' r) b' o' P' ∧ ∀ z, P' z → P z)) (fun _ i _ => place.length - (intOf i).toNat)
  case atStart => exact ⟨rfl, 0, b, o, s, v, k, x0, y0, r0, P, rfl, rfl, Nat.zero_le _, ⟨rfl, rfl⟩, rfl, HO.out, fun _ h => h⟩
  case round =>
    obtain ⟨rfl, j, b', o', s', v', k', x, y, r, P', rfl, rfl, hj, HW, HF, HR⟩ := hrel
    by_cases hlt : j < place.length
    · obtain ⟨i, hi⟩ : ∃ i, place[j]? = some i := ⟨place[j], List.getElem?_eq_getElem hlt⟩
      rcases HP.out with hpn | ⟨pb, po, rfl, _, _, hc⟩
      · rw [hpn] at hlt; simp at hlt
      have hcj := hc j i hi
      have HI := Lib.hid hi
      clear hc hi
      have g1 : (0 : Int) ≤ (j : Int) := by omega
      have g2 : (j : Int) < (place.length : Int) := by omega
      obtain ⟨⟨⟨c0, c1⟩, _, a, c, P1, P2, g10, _, _, c2, hk, _⟩, hsub⟩ := HR.out
      by_cases hin : 0 ≤ i ∧ i < (flen k' : Int)
      · obtain ⟨n, rfl⟩ : ∃ n : Nat, i = n := ⟨i.toNat, by omega⟩
        have hn : n < flen k' := by omega
        rcases hk with hk | ⟨b1, P3, rfl, _, _, g13, hrow⟩
        · subst hk; simp [flen] at hn
        obtain ⟨P4, hdr, h4⟩ := hrow.drop n
        obtain ⟨x', y', s1, v1, kk, hd⟩ := fdrop_succ n k' hn
        rw [hd] at hdr
        have HR2 := Lib.hid (And.intro hdr (fun z hz => hsub z (g10 z (g13 z (h4 z hz)))))
        have d1 : decide ((n : Int) < 0) = false := by simp
        have d2 : decide ((n : Int) ≥ (flen k' : Int)) = false := by simp; omega
        have g3 : (0 : Int) ≤ (n : Int) := by omega
        have g4 : (n : Int) < (flen k' : Int) := by omega
        have HW2 : Hid (Way wr (place.take (j + 1)) b o b1 (n * 3)) := by
          rw [Hid, take_next HI.out]
          have := HW.out.snoc c2 (i := (n : Int)) (by omega)
          simpa using this
        have HF2 : Hid (fat s v k (place.take (j + 1)) = some (s1, v1, kk)) := by
          rw [Hid, take_next HI.out, fat_app, HF.out]
          show fat s' v' k' [(n : Int)] = _
          rw [fat_step hn hd]; rfl
        clear hrow hdr hd c0 c1 hin h4 g13 hsub g10
        go_wp2_with fail
        go_roundw
        case rel => exact ⟨by trivial, j + 1, b1, n * 3, s1, v1, kk, x', y', _, P4, rfl, by go_num, by omega, HW2, HF2, by have := HR2.out.1; rwa [Nat.zero_add] at this, HR2.out.2⟩
        case measure => simp [intOf]; omega
      · have HN : Hid (fat s v k place = none) := by
          rw [Hid, take_drop_at HI.out, fat_app, HF.out]
          exact fat_out (s := s') (v := v') hin
        clear hk hsub g10
        by_cases hneg : i < 0
        · have d1 : decide (i < 0) = true := by simpa using hneg
          go_wp2_with fail
          go_ret
          exact ⟨rfl, .inl ⟨HN.out, rfl⟩⟩
        · have d1 : decide (i < 0) = false := by simpa using hneg
          have d2 : decide (i ≥ (flen k' : Int)) = true := by simp; omega
          go_wp2_with fail
          go_ret
          exact ⟨rfl, .inl ⟨HN.out, rfl⟩⟩
    · obtain rfl : j = place.length := by omega
      have HW2 : Hid (Way wr place b o b' o') := by have := HW.out; rwa [List.take_length] at this
      have HF2 : Hid (fat s v k place = some (s', v', k')) := by have := HF.out; rwa [List.take_length] at this
      go_wp2_with fail
      go_ret
      exact ⟨rfl, .inr ⟨b', o', s', v', k', x, y, r, P', HF2.out, rfl, HW2.out, HR.out.1, HR.out.2⟩⟩
end Go.Proofs.Ytdkcbbhkoibplaa

/-! A2o: The term that a node stands for, made anew, is a tree of one's own. -/
namespace Go.Proofs.Ytdkcbbhkoibplaa
open Go.RowKit Go.Deep
attribute [local go_sem ↓] Go.wp_at_zero Go.wp_at_succ

/-- The terms k lie there as a tree of one's own. -/
def TXo (w : World) (lo B : Nat) (a : Option Addr) (k : Fo) : Prop := Sl w lo B a k ∧ TroS w lo B a k
theorem TXo.same {w w' : World} {lo B : Nat} {a : Option Addr} {k : Fo} (hb : Same lo B w w') (h : TXo w lo B a k) : TXo w' lo B a k := ⟨h.1.same hb, h.2.same hb⟩
theorem TXo.mono {w : World} {lo lo' B B' : Nat} {a : Option Addr} {k : Fo} (hlo : lo' ≤ lo) (hB : B ≤ B') (h : TXo w lo B a k) : TXo w lo' B' a k := ⟨h.1.mono hlo hB, h.2.mono hlo hB⟩

def TmPostO (s v : Int) (k : Fo) (w : World) (e : Ending) (w' : World) : Prop :=
  ∃ a c, e = .returned (.agg #[.int .i64 s, .int .i64 v, .slice a (flen k) c]) ∧ Below w.heap.size w w' ∧ TXo w' w.heap.size w'.heap.size a k

set_option maxRecDepth 100000 in
set_option maxHeartbeats 1000000 in
theorem varTermO_any (v : Int) (w : World) : Calls Try.prog 142 #[.int .i64 v] w (TmPostO 0 v .nil w) := by
  go_enter Try.func142, Try.ntmps142
  go_wp2_with fail
  refine bodyPost_ret (v := .agg #[.int .i64 0, .int .i64 v, .slice none 0 0]) ?_ rfl ⟨none, 0, rfl, (Below.refl _ _).alloc (Nat.le_refl _) _, ⟨.inl rfl, .inl rfl⟩⟩
  simp [results, Try.results142, go_sem]

/-- What holds at the head of term's loop: the first j kids are made. -/
structure TmAtO (w : World) (s : Int) (k : Fo) (j : Nat) (wr : World) : Prop where
  below : Below w.heap.size w wr
  size : w.heap.size + 4 ≤ wr.heap.size
  t0 : wr.cell? ⟨w.heap.size + 1 + 1, 0, none⟩ = some (.int .i64 s)
  t1 : wr.cell? ⟨w.heap.size + 1 + 1, 1, none⟩ = some (.int .i64 0)
  t2 : wr.cell? ⟨w.heap.size + 1 + 1, 2, none⟩ = some (.slice (some ⟨w.heap.size + 1 + 1 + 1, 0, none⟩) (flen k) (flen k))
  r0 : wr.cell? ⟨w.heap.size + 1, 0, none⟩ = some (.int .i64 0)
  r1 : wr.cell? ⟨w.heap.size + 1, 1, none⟩ = some (.int .i64 0)
  r2 : wr.cell? ⟨w.heap.size + 1, 2, none⟩ = some (.slice none 0 0)
  q0 : wr.frozen? ⟨w.heap.size + 1, 0, none⟩ = false
  q1 : wr.frozen? ⟨w.heap.size + 1, 1, none⟩ = false
  q2 : wr.frozen? ⟨w.heap.size + 1, 2, none⟩ = false
  row : ∃ f : Nat → Value, wr.rowIs (w.heap.size + 1 + 1 + 1) 35 (flen k * 3) f ∧ ∃ Ls : Nat → Nat, Ls 0 = w.heap.size + 4 ∧ (∀ i, i < j → Ls i ≤ Ls (i + 1)) ∧ Ls j ≤ wr.heap.size ∧ ∀ i, i < j → ∃ x y s v kk a c, fdrop i k = .node x y (s, v) kk (fdrop (i + 1) k) ∧
    f (i * 3) = .int .i64 s ∧ f (i * 3 + 1) = .int .i64 v ∧ f (i * 3 + 2) = .slice a (flen kk) c ∧ TXo wr (Ls i) (Ls (i + 1)) a kk

theorem TmAtO.start (w : World) (s : Int) (k : Fo) (x : Value) (y : Value) : TmAtO w s k 0 ((((w.alloc (.cells #[x, y] 165)).alloc (.cells #[.int .i64 0, .int .i64 0, .slice none 0 0] 35)).alloc (.cells #[.int .i64 s, .int .i64 0, .slice (some ⟨w.heap.size + 1 + 1 + 1, 0, none⟩) (flen k) (flen k)] 35)).alloc (.cells (madeCells #[.int .i64 0, .int .i64 0, .slice none 0 0] (flen k * 3)) 35)) := by
  refine ⟨((((Below.refl _ _).alloc (Nat.le_refl _) _).alloc (by simp) _).alloc (by simp; omega) _).alloc (by simp; omega) _, by simp, ?_, ?_, ?_, ?_, ?_, ?_, ?_, ?_, ?_, ?_⟩
  · rw [World.cell?_alloc_lt _ _ _ (by simp), World.cell?_alloc_at _ _ _ _ (by simp)]; rfl
  · rw [World.cell?_alloc_lt _ _ _ (by simp), World.cell?_alloc_at _ _ _ _ (by simp)]; rfl
  · rw [World.cell?_alloc_lt _ _ _ (by simp), World.cell?_alloc_at _ _ _ _ (by simp)]; rfl
  · rw [World.cell?_alloc_lt _ _ _ (by simp), World.cell?_alloc_lt _ _ _ (by simp), World.cell?_alloc_at _ _ _ _ (by simp)]; rfl
  · rw [World.cell?_alloc_lt _ _ _ (by simp), World.cell?_alloc_lt _ _ _ (by simp), World.cell?_alloc_at _ _ _ _ (by simp)]; rfl
  · rw [World.cell?_alloc_lt _ _ _ (by simp), World.cell?_alloc_lt _ _ _ (by simp), World.cell?_alloc_at _ _ _ _ (by simp)]; rfl
  · rw [World.frozen?_alloc_past _ _ _ (by simp), World.frozen?_alloc_past _ _ _ (by simp), World.frozen?_alloc_at _ _ _ _ (by simp)]
  · rw [World.frozen?_alloc_past _ _ _ (by simp), World.frozen?_alloc_past _ _ _ (by simp), World.frozen?_alloc_at _ _ _ _ (by simp)]
  · rw [World.frozen?_alloc_past _ _ _ (by simp), World.frozen?_alloc_past _ _ _ (by simp), World.frozen?_alloc_at _ _ _ _ (by simp)]
  · refine ⟨fun i => #[Value.int .i64 0, .int .i64 0, .slice none 0 0][i % 3]!, ?_, fun _ => w.heap.size + 4, rfl, fun i hi => by omega, by simp, fun i hi => by omega⟩
    have := World.rowIs_alloc (((w.alloc (.cells #[x, y] 165)).alloc (.cells #[.int .i64 0, .int .i64 0, .slice none 0 0] 35)).alloc (.cells #[.int .i64 s, .int .i64 0, .slice (some ⟨w.heap.size + 1 + 1 + 1, 0, none⟩) (flen k) (flen k)] 35)) (madeCells #[.int .i64 0, .int .i64 0, .slice none 0 0] (flen k * 3)) 35 (fun i => #[Value.int .i64 0, .int .i64 0, .slice none 0 0][i % 3]!) (fun i hi => by
      rw [size_madeCells] at hi
      exact made_atA _ _ _ hi)
    rw [size_madeCells] at this
    simp only [World.size_alloc] at this
    exact this
theorem TmAtO.step {w wr w2 : World} {s0 : Int} {k : Fo} {j x y : Nat} {s v : Int} {kk : Fo} {a : Option Addr} {c : Nat} (h : TmAtO w s0 k j wr) (hd : fdrop j k = .node x y (s, v) kk (fdrop (j + 1) k)) (hb : Below wr.heap.size wr w2) (hl : TXo w2 wr.heap.size w2.heap.size a kk) :
    TmAtO w s0 k (j + 1) (((w2.setCell ⟨w.heap.size + 1 + 1 + 1, j * 3, none⟩ (.int .i64 s)).setCell ⟨w.heap.size + 1 + 1 + 1, j * 3 + 1, none⟩ (.int .i64 v)).setCell ⟨w.heap.size + 1 + 1 + 1, j * 3 + 2, none⟩ (.slice a (flen kk) c)) := by
  have hs := h.size
  have hs2 := hb.size
  obtain ⟨f, hf, Ls, hL0, hL1, hL2, hall⟩ := h.row
  have hf2 := hf.of_block (hb.block _ (by omega))
  have hsame : ∀ {L H : Nat}, w.heap.size + 3 < L → Same L H w2 (((w2.setCell ⟨w.heap.size + 1 + 1 + 1, j * 3, none⟩ (.int .i64 s)).setCell ⟨w.heap.size + 1 + 1 + 1, j * 3 + 1, none⟩ (.int .i64 v)).setCell ⟨w.heap.size + 1 + 1 + 1, j * 3 + 2, none⟩ (.slice a (flen kk) c)) := fun hL =>
    ((Same.setCell (fun _ _ _ => rfl) (.inl (by simp; omega)) _).setCell (.inl (by simp; omega)) _).setCell (.inl (by simp; omega)) _
  have hcell : ∀ {q : Addr} {u : Value}, wr.cell? q = some u → q.block < w.heap.size + 3 → (((w2.setCell ⟨w.heap.size + 1 + 1 + 1, j * 3, none⟩ (.int .i64 s)).setCell ⟨w.heap.size + 1 + 1 + 1, j * 3 + 1, none⟩ (.int .i64 v)).setCell ⟨w.heap.size + 1 + 1 + 1, j * 3 + 2, none⟩ (.slice a (flen kk) c)).cell? q = some u := fun {q u} hq hlt => by
    rw [World.cell?_setCell_other _ _ _ _ (by intro h'; have := congrArg Addr.block h'; simp at this; omega), World.cell?_setCell_other _ _ _ _ (by intro h'; have := congrArg Addr.block h'; simp at this; omega), World.cell?_setCell_other _ _ _ _ (by intro h'; have := congrArg Addr.block h'; simp at this; omega), hb.cell (World.block_lt_of_cell? _ _ hq)]
    exact hq
  have hfro : ∀ {q : Addr}, wr.frozen? q = false → q.block < w.heap.size + 3 → (((w2.setCell ⟨w.heap.size + 1 + 1 + 1, j * 3, none⟩ (.int .i64 s)).setCell ⟨w.heap.size + 1 + 1 + 1, j * 3 + 1, none⟩ (.int .i64 v)).setCell ⟨w.heap.size + 1 + 1 + 1, j * 3 + 2, none⟩ (.slice a (flen kk) c)).frozen? q = false := fun {q} hq hlt => by
    rw [World.frozen?_setCell, World.frozen?_setCell, World.frozen?_setCell, hb.frozen (by omega)]
    exact hq
  refine ⟨(((h.below.trans (hb.mono (by omega))).setCell (by simp; omega) _).setCell (by simp; omega) _).setCell (by simp; omega) _, by simp; omega, hcell h.t0 (by simp), hcell h.t1 (by simp), hcell h.t2 (by simp), hcell h.r0 (by simp), hcell h.r1 (by simp), hcell h.r2 (by simp), hfro h.q0 (by simp), hfro h.q1 (by simp), hfro h.q2 (by simp), ⟨_, ((hf2.set _ _).set _ _).set _ _, fun i => if i ≤ j then Ls i else w2.heap.size, by simp [hL0], fun i hi => ?_, by simp [show ¬(j + 1 ≤ j) from by omega], fun i hi => ?_⟩⟩
  · by_cases hij : i = j
    · subst hij
      dsimp only
      rw [if_pos (Nat.le_refl _), if_neg (by omega)]
      omega
    · dsimp only
      rw [if_pos (by omega), if_pos (by omega)]
      exact hL1 i (by omega)
  by_cases hij : i = j
  · subst hij
    refine ⟨x, y, s, v, kk, a, c, hd, by simp, by simp, by simp, ?_⟩
    simp only [Nat.le_refl, if_true, show ¬(i + 1 ≤ i) from by omega, if_false]
    have h0 : Ls 0 ≤ Ls i := by have := Ls_mono hL1 i 0 (by omega); rwa [Nat.zero_add] at this
    exact (hl.same (hsame (by omega))).mono (by omega) (Nat.le_refl _)
  · obtain ⟨x', y', s', v', k', a', c', e, h0, h1, h2, hsl⟩ := hall i (by omega)
    have q0 : Ls 0 ≤ Ls i := by have := Ls_mono hL1 i 0 (by omega); rwa [Nat.zero_add] at this
    have q1 : Ls (i + 1) ≤ Ls j := by have := Ls_mono hL1 (j - (i + 1)) (i + 1) (by omega); rwa [show i + 1 + (j - (i + 1)) = j from by omega] at this
    refine ⟨x', y', s', v', k', a', c', e, ?_, ?_, ?_, ?_⟩
    · rw [if_neg (by omega), if_neg (by omega), if_neg (by omega)]; exact h0
    · rw [if_neg (by omega), if_neg (by omega), if_neg (by omega)]; exact h1
    · rw [if_neg (by omega), if_neg (by omega), if_neg (by omega)]; exact h2
    · dsimp only
      rw [if_pos (show i ≤ j by omega), if_pos (show i + 1 ≤ j by omega)]
      exact (hsl.same (fun b h1 h2 => hb.block b (by omega))).same (hsame (by omega))
theorem TmAtO.sl {w wr : World} {s : Int} {k : Fo} {j : Nat} (h : TmAtO w s k j wr) (hj : flen k = j) : TXo wr (w.heap.size + 3) wr.heap.size (some ⟨w.heap.size + 1 + 1 + 1, 0, none⟩) k := by
  subst hj
  have hs := h.size
  obtain ⟨f, hf, Ls, hL0, hL1, hL2, hall⟩ := h.row
  have key : ∀ i, i < flen k → ∃ x y s v kk a c, fdrop i k = .node x y (s, v) kk (fdrop (i + 1) k) ∧ wr.cell? ⟨w.heap.size + 1 + 1 + 1, 0 + i * 3, none⟩ = some (.int .i64 s) ∧ wr.cell? ⟨w.heap.size + 1 + 1 + 1, 0 + i * 3 + 1, none⟩ = some (.int .i64 v) ∧
      wr.cell? ⟨w.heap.size + 1 + 1 + 1, 0 + i * 3 + 2, none⟩ = some (.slice a (flen kk) c) ∧ TXo wr (Ls i) (Ls (i + 1)) a kk := fun i hi => by
    obtain ⟨x, y, s, v, kk, a, c, e, h0, h1, h2, hs⟩ := hall i hi
    refine ⟨x, y, s, v, kk, a, c, e, ?_, ?_, ?_, hs⟩
    · rw [Nat.zero_add, ← h0]; exact hf.cell (by omega)
    · rw [Nat.zero_add, ← h1]; exact hf.cell (by omega)
    · rw [Nat.zero_add, ← h2]; exact hf.cell (by omega)
  refine ⟨.inr ⟨_, 0, rfl, row_of_all k _ 0 (by omega) (by omega) fun i hi => ?_⟩, .inr ⟨_, rfl, by omega, by omega, ?_⟩⟩
  · obtain ⟨x, y, s, v, kk, a, c, e, h0, h1, h2, hs⟩ := key i hi
    have q0 : Ls 0 ≤ Ls i := by have := Ls_mono hL1 i 0 (by omega); rwa [Nat.zero_add] at this
    have q1 : Ls (i + 1) ≤ Ls (flen k) := by have := Ls_mono hL1 (flen k - (i + 1)) (i + 1) (by omega); rwa [show i + 1 + (flen k - (i + 1)) = flen k from by omega] at this
    exact ⟨x, y, s, v, kk, a, c, e, h0, h1, h2, hs.1.mono (by omega) (by omega)⟩
  · have := tro_of_all (w := wr) k (w.heap.size + 1 + 1 + 1) 0 wr.heap.size Ls hL1 hL2 (by omega) fun i hi => by
      obtain ⟨x, y, s, v, kk, a, c, e, h0, h1, h2, hs⟩ := key i hi
      exact ⟨x, y, s, v, kk, a, c, e, ⟨_, h0⟩, ⟨_, h1⟩, hf.frozen _, ⟨hf.frozen _, hf.frozen _⟩, h2, hs.2⟩
    rw [hL0] at this
    exact this
theorem tm_endO {w w1 : World} {s v : Int} {k : Fo} {a : Option Addr} {c : Nat} (hb : Below w.heap.size w w1) (hl : TXo w1 (w.heap.size + 3) w1.heap.size a k) (x y z : Value) :
    TmPostO s v k w (.returned (.agg #[.int .i64 s, .int .i64 v, .slice a (flen k) c])) (((w1.setCell ⟨w.heap.size + 1, 0, none⟩ x).setCell ⟨w.heap.size + 1, 1, none⟩ y).setCell ⟨w.heap.size + 1, 2, none⟩ z) := by
  refine ⟨a, c, rfl, ((hb.setCell (by simp) _).setCell (by simp) _).setCell (by simp) _, ?_⟩
  have hs : Same (w.heap.size + 3) w1.heap.size w1 (((w1.setCell ⟨w.heap.size + 1, 0, none⟩ x).setCell ⟨w.heap.size + 1, 1, none⟩ y).setCell ⟨w.heap.size + 1, 2, none⟩ z) :=
    (((Same.setCell (fun _ _ _ => rfl) (.inl (by simp)) _).setCell (.inl (by simp)) _).setCell (.inl (by simp)) _)
  exact (hl.same hs).mono (by omega) (by simp)

set_option maxRecDepth 100000 in
set_option maxHeartbeats 1000000 in
theorem symTermO_any (N : Nat) : ∀ (s : Int) (a : Option Addr) (c : Nat) (k : Fo) (w : World), NSl w 0 w.heap.size a k → fok k = true → fsz k ≤ N → N ≤ 1000000 →
    Calls Try.prog 159 #[.agg #[.int .i64 s, .slice a (flen k) c]] w (TmPostO s 0 k w) := by
  induction N using Nat.strongRecOn with
  | _ N ih =>
    intro s a c k w hl hok hN hN2
    have hfl := flen_le_sz k
    have IH := Lib.hid ih
    have HOK := Lib.hid hok
    clear ih hok
    by_cases h0 : flen k = 0
    · have hk : k = .nil := by
        cases k with
        | nil => rfl
        | node _ _ _ _ _ => simp [flen] at h0
      subst hk
      clear hl h0
      simp only [flen]
      go_enter Try.func159, Try.ntmps159
      go_wp2_with fail
      go_loopw [21] (fun i wr => i = .int .i64 0 ∧ wr = (((w.alloc (.cells #[.int .i64 s, .slice a 0 c] 165)).alloc (.cells #[.int .i64 0, .int .i64 0, .slice none 0 0] 35)).alloc (.cells #[.int .i64 s, .int .i64 0, .slice none 0 0] 35))) (fun _ _ => 0)
      case atStart => exact ⟨rfl, rfl⟩
      case round =>
        obtain ⟨rfl, rfl⟩ := hrel
        go_wp2_with fail
        refine bodyPost_ret (v := .agg #[.int .i64 s, .int .i64 0, .slice none 0 0]) ?_ rfl ⟨none, 0, rfl, (((Below.refl _ _).alloc (Nat.le_refl _) _).alloc (by simp) _).alloc (by simp; omega) _, ⟨.inl rfl, .inl rfl⟩⟩
        simp [results, Try.results159, go_sem]
    · have hmk := make_termsA (flen k) (by omega)
      have HST := Lib.hid (TmAtO.start w s k (.int .i64 s) (.slice a (flen k) c))
      have hpos : 0 < flen k := by omega
      go_enter Try.func159, Try.ntmps159
      go_wp2_with fail
      clear hmk
      go_loopw [21] (fun i wr => ∃ j : Nat, j ≤ flen k ∧ i = .int .i64 j ∧ TmAtO w s k j wr) (fun i _ => flen k - (intOf i).toNat)
      case atStart => exact ⟨0, by omega, rfl, HST.out⟩
      case round =>
        clear HST
        obtain ⟨j, hj, rfl, hat⟩ := hrel
        have hsr := hat.size
        by_cases hlt : j < flen k
        · rcases hl with rfl | ⟨b, o, rfl, hrow⟩
          · simp [flen] at hlt
          obtain ⟨s', v', kk, val, ⟨x, y, hd⟩, _, hbB, hk0, hn⟩ := nrow_at (hrow.below hat.below) hlt
          have hkN := fsz_kid hd
          have hkok := fok_kid HOK.out hd
          have ht2 := hat.t2
          have hu0 : ∀ u : After wr.heap.size wr, u.world.cell? ⟨w.heap.size + 1 + 1, 2, none⟩ = some (.slice (some ⟨w.heap.size + 1 + 1 + 1, 0, none⟩) (flen k) (flen k)) := fun u => u.cell (by simp; omega) ht2
          have g1 : (0 : Int) ≤ (j : Int) := by omega
          have g2 : (j : Int) < (flen k : Int) := by omega
          have HAT := Lib.hid hat
          have HD := Lib.hid hd
          clear hd hrow hat
          rcases hn with ⟨rfl, rfl, rfl⟩ | ⟨hs', a2, c2, rfl, hn2⟩
          · clear hkok
            go_wp2_with fail
            refine wp_region_mix (fun w' => ∃ u : After wr.heap.size wr, w' = u.world) [6] [(0, 0), (1, 0), (2, 0), (3, 0), (4, 1), (5, 1), (6, 2)] (by kernel_rfl) (by kernel_rfl) ⟨⟨_, (Below.refl _ _).drew⟩, rfl⟩ ?_
            iterate 4
              refine mix_see rfl (fun K hK => ?_)
              go_simp
              refine hK _ ?_
              clear hK K
            clear hu0
            refine mix_hold rfl (fun K hK => ?_)
            go_simp
            refine upon_method 142 (by kernel_rfl) (by kernel_rfl) ?_
            go_simp
            with_reducible refine (varTermO_any v' _).mono ?_
            rintro e w2 ⟨a2', c2', rfl, hb2', hl2⟩
            have hb2 : Below wr.heap.size wr w2 := bl_undrew hb2'
            obtain ⟨f, hf, _⟩ := HAT.out.row
            have hf2 := hf.of_block (hb2.block _ (by omega))
            have hg0 := hf2.cell (i := j * 3) (by omega)
            have hg1 := hf2.cell (i := j * 3 + 1) (by omega)
            have hg2 := hf2.cell (i := j * 3 + 2) (by omega)
            have hz0 := hf2.frozen (j * 3)
            have hz1 := hf2.frozen (j * 3 + 1)
            have hz2 := hf2.frozen (j * 3 + 2)
            have HSTEP := Lib.hid (HAT.out.step (c := c2') HD.out hb2 hl2)
            refine hK _ _ ⟨⟨_, hb2⟩, rfl⟩ ?_
            clear hK K hf hf2 hb2' hl2
            refine mix_hold rfl (fun K hK => ?_)
            go_simp
            refine hK _ _ ⟨⟨_, hb2⟩, rfl⟩ ?_
            clear hK K hb2
            refine mix_late rfl (fun K hK => ?_)
            go_simp
            refine hK _ _ ?_
            clear hK K
            refine mix_end ?_
            clear hg0 hg1 hg2 hz0 hz1 hz2 ht2 hk0
            go_wp2_with fail
            go_roundw
            case rel => exact ⟨j + 1, by omega, by go_num, HSTEP.out⟩
            case measure => simp [intOf]; omega
          · have hv0 : v' = 0 := ((okN_iff _ _ _).1 hkok.1).2.2 hs'
            subst hv0
            have HKK := Lib.hid hkok.2
            have HN2 := Lib.hid hn2
            clear hn2 hkok
            go_wp2_with fail
            refine wp_region_mix (fun w' => ∃ u : After wr.heap.size wr, w' = u.world) [6] [(0, 0), (1, 0), (2, 0), (3, 0), (4, 1), (5, 1), (6, 2)] (by kernel_rfl) (by kernel_rfl) ⟨⟨_, (Below.refl _ _).drew⟩, rfl⟩ ?_
            iterate 4
              refine mix_see rfl (fun K hK => ?_)
              go_simp
              refine hK _ ?_
              clear hK K
            clear hu0
            refine mix_hold rfl (fun K hK => ?_)
            go_simp
            refine upon_method 159 (by kernel_rfl) (by kernel_rfl) ?_
            go_simp
            with_reducible refine (IH.out (fsz kk) (by omega) s' a2 c2 kk _ ?_ HKK.out (Nat.le_refl _) (by omega)).mono ?_
            · exact (HN2.out.below (Below.refl _ _).drew).mono (Nat.le_refl _) (by simp; omega)
            rintro e w2 ⟨a2', c2', rfl, hb2', hl2⟩
            have hb2 : Below wr.heap.size wr w2 := bl_undrew hb2'
            obtain ⟨f, hf, _⟩ := HAT.out.row
            have hf2 := hf.of_block (hb2.block _ (by omega))
            have hg0 := hf2.cell (i := j * 3) (by omega)
            have hg1 := hf2.cell (i := j * 3 + 1) (by omega)
            have hg2 := hf2.cell (i := j * 3 + 2) (by omega)
            have hz0 := hf2.frozen (j * 3)
            have hz1 := hf2.frozen (j * 3 + 1)
            have hz2 := hf2.frozen (j * 3 + 2)
            have HSTEP := Lib.hid (HAT.out.step (c := c2') HD.out hb2 hl2)
            refine hK _ _ ⟨⟨_, hb2⟩, rfl⟩ ?_
            clear hK K hf hf2 hb2' hl2
            refine mix_hold rfl (fun K hK => ?_)
            go_simp
            refine hK _ _ ⟨⟨_, hb2⟩, rfl⟩ ?_
            clear hK K hb2
            refine mix_late rfl (fun K hK => ?_)
            go_simp
            refine hK _ _ ?_
            clear hK K
            refine mix_end ?_
            clear hg0 hg1 hg2 hz0 hz1 hz2 ht2 hk0
            go_wp2_with fail
            go_roundw
            case rel => exact ⟨j + 1, by omega, by go_num, HSTEP.out⟩
            case measure => simp [intOf]; omega
        · have hjk : j = flen k := by omega
          subst hjk
          have HDN := Lib.hid (fun x y z => tm_endO (s := s) (v := 0) (c := flen k) hat.below (hat.sl rfl) x y z)
          have ht0 := hat.t0
          have ht1 := hat.t1
          have ht2 := hat.t2
          have hr0 := hat.r0
          have hr1 := hat.r1
          have hr2 := hat.r2
          have hq0 := hat.q0
          have hq1 := hat.q1
          have hq2 := hat.q2
          clear hat
          go_wp2_with fail
          refine bodyPost_ret (v := .agg #[.int .i64 s, .int .i64 0, .slice (some ⟨w.heap.size + 1 + 1 + 1, 0, none⟩) (flen k) (flen k)]) ?_ rfl (HDN.out _ _ _)
          simp [results, Try.results159, go_sem, hr0, hr1, hr2]
end Go.Proofs.Ytdkcbbhkoibplaa
