/- Several texts in one: LQ0. -/
import Derived.Test.YtbnbogdglffkmaaGreatDoorKEb19
import Derived.Test.YtbnbogdglffkmaaGreatDoorKEb15
import Derived.Test.YtbnbogdglffkmaaGreatDoorKEb20

/-! LQ0: The drawn equation: what the temporaries of its regions hold, whatever the order. Definitions and plain lemmas. -/
namespace Go.Proofs.YtbnbogdglffkmaaGreatDoor
open Go.RowKit Go.Deep

/-- What a temporary holds: a term of fewer than n signs below it, a row of m terms, a small number, a pointer to a term, an equation. -/
inductive Kd where
  | tm (n : Nat)
  | row (m n : Nat)
  | ix
  | pt (n : Nat)
  | eq
  | any
  | val (v : Value)
def TmE (lo n : Nat) (x : Value) (u : World) : Prop := ∃ s v a c k, x = .agg #[.int .i64 s, .int .i64 v, .slice a (flen k) c] ∧ OkZ s v k ∧ fsz k < n ∧ Sl u lo u.heap.size a k
def RwE (lo m n : Nat) (x : Value) (u : World) : Prop := ∃ b k, x = .slice (some ⟨b, 0, none⟩) m m ∧ flen k = m ∧ fok k = true ∧ Zf k ∧ fsz k < n ∧ lo ≤ b ∧ b < u.heap.size ∧ Row u lo u.heap.size k b 0
def PtE (lo n : Nat) (x : Value) (u : World) : Prop := ∃ b o s v a c k, x = .pointer (some ⟨b, o, none⟩) ∧ lo ≤ b ∧ b < u.heap.size ∧ u.cell? ⟨b, o, none⟩ = some (.int .i64 s) ∧ u.cell? ⟨b, o + 1, none⟩ = some (.int .i64 v) ∧ u.cell? ⟨b, o + 2, none⟩ = some (.slice a (flen k) c) ∧ OkZ s v k ∧ fsz k < n ∧ Sl u lo u.heap.size a k
def EqE (lo : Nat) (x : Value) (u : World) : Prop := ∃ s v a c k s' v' a' c' k', x = .agg #[.int .i64 s, .int .i64 v, .slice a (flen k) c, .int .i64 s', .int .i64 v', .slice a' (flen k') c'] ∧ OkZ s v k ∧ fsz k < 16 ∧ Sl u lo u.heap.size a k ∧ OkZ s' v' k' ∧ fsz k' < 16 ∧ Sl u lo u.heap.size a' k'
def Kd.is (lo : Nat) : Kd → Value → World → Prop
  | .tm n => TmE lo n
  | .row m n => RwE lo m n
  | .ix => fun x _ => ∃ y : Nat, y < 2 ∧ x = .int .i64 (y : Int)
  | .pt n => PtE lo n
  | .eq => EqE lo
  | .any => fun _ _ => True
  | .val v => fun x _ => x = v

/-- The blocks from lo on stay. -/
structure Up (lo : Nat) (u u' : World) : Prop where
  size : u.heap.size ≤ u'.heap.size
  same : Same lo u.heap.size u u'
theorem Up.refl (lo : Nat) (u : World) : Up lo u u := ⟨Nat.le_refl _, fun _ _ _ => rfl⟩
theorem Up.below {lo : Nat} {u u' : World} (h : Below u.heap.size u u') : Up lo u u' := ⟨h.size, fun b _ hb => h.block b hb⟩
theorem Up.sl {lo : Nat} {u u' : World} (h : Up lo u u') {a : Option Addr} {k : Fo} (hs : Sl u lo u.heap.size a k) : Sl u' lo u'.heap.size a k := (hs.same h.same).mono (Nat.le_refl _) h.size
theorem Up.cell {lo : Nat} {u u' : World} (h : Up lo u u') {b o : Nat} {x : Value} (h1 : lo ≤ b) (hc : u.cell? ⟨b, o, none⟩ = some x) : u'.cell? ⟨b, o, none⟩ = some x := by
  rw [h.same.cell h1 (World.block_lt_of_cell? _ _ hc)]; exact hc
theorem Kd.up {lo : Nat} {u u' : World} (h : Up lo u u') : ∀ {d : Kd} {x : Value}, d.is lo x u → d.is lo x u'
  | .tm _, _, ⟨s, v, a, c, k, h1, h2, h3, h4⟩ => ⟨s, v, a, c, k, h1, h2, h3, h.sl h4⟩
  | .row _ _, _, ⟨b, k, h1, h2, h3, h4, h5, h6, h7, h8⟩ => ⟨b, k, h1, h2, h3, h4, h5, h6, Nat.lt_of_lt_of_le h7 h.size, (h8.same h.same).mono (Nat.le_refl _) h.size⟩
  | .ix, _, hx => hx
  | .pt _, _, ⟨b, o, s, v, a, c, k, h1, h2, h3, h4, h5, h6, h7, h8, h9⟩ => ⟨b, o, s, v, a, c, k, h1, h2, Nat.lt_of_lt_of_le h3 h.size, h.cell h2 h4, h.cell h2 h5, h.cell h2 h6, h7, h8, h.sl h9⟩
  | .eq, _, ⟨s, v, a, c, k, s', v', a', c', k', h1, h2, h3, h4, h5, h6, h7⟩ => ⟨s, v, a, c, k, s', v', a', c', k', h1, h2, h3, h.sl h4, h5, h6, h.sl h7⟩
  | .any, _, hx => hx
  | .val _, _, hx => hx

/-- A row of one term, of two. -/
theorem rw_one {lo n : Nat} {s v : Int} {a : Option Addr} {c : Nat} {k : Fo} {u : World} {T : TypeId} (hlo : lo ≤ u.heap.size) (hok : OkZ s v k) (hn : fsz k < n) (hs : Sl u lo u.heap.size a k) :
    RwE lo 1 (n + 1) (.slice (some ⟨u.heap.size, 0, none⟩) 1 1) (u.alloc (.cells #[.int .i64 s, .int .i64 v, .slice a (flen k) c] T)) := by
  obtain ⟨h1, h2, h3⟩ := hok
  rcases kid1 (T := T) (s := s) (v := v) (c := c) hs hlo with h | ⟨b, o, e, h⟩
  · cases h
  · simp only [Option.some.injEq, Addr.mk.injEq, and_true] at e
    obtain ⟨rfl, rfl⟩ := e
    exact ⟨_, _, rfl, rfl, by simp [fok, h1, h2], zf_node.2 ⟨rfl, rfl, h3, Zf.nil⟩, by simp only [fsz]; omega, hlo, by simp, h⟩
theorem rw_two {lo n n' : Nat} {s v s' v' : Int} {a a' : Option Addr} {c c' : Nat} {k k' : Fo} {u : World} {T : TypeId} (hlo : lo ≤ u.heap.size) (hok : OkZ s v k) (hn : fsz k < n) (hs : Sl u lo u.heap.size a k) (hok' : OkZ s' v' k') (hn' : fsz k' < n') (hs' : Sl u lo u.heap.size a' k') :
    RwE lo 2 (n + n' + 1) (.slice (some ⟨u.heap.size, 0, none⟩) 2 2) (u.alloc (.cells #[.int .i64 s, .int .i64 v, .slice a (flen k) c, .int .i64 s', .int .i64 v', .slice a' (flen k') c'] T)) := by
  obtain ⟨h1, h2, h3⟩ := hok
  obtain ⟨h1', h2', h3'⟩ := hok'
  rcases kid2 (T := T) (s := s) (v := v) (c := c) (s' := s') (v' := v') (c' := c') hs hs' hlo with h | ⟨b, o, e, h⟩
  · cases h
  · simp only [Option.some.injEq, Addr.mk.injEq, and_true] at e
    obtain ⟨rfl, rfl⟩ := e
    exact ⟨_, _, rfl, rfl, by simp [fok, h1, h2, h1', h2'], zf_node.2 ⟨rfl, rfl, h3, zf_node.2 ⟨rfl, rfl, h3', Zf.nil⟩⟩, by simp only [fsz]; omega, hlo, by simp, h⟩
/-- A sign over such a row. -/
theorem tm_of_row1 {lo n : Nat} {b : Nat} {k : Fo} {u : World} (h2 : flen k = 1) (h3 : fok k = true) (h4 : Zf k) (h5 : fsz k < n) (h8 : Row u lo u.heap.size k b 0) : TmE lo n (.agg #[.int .i64 3, .int .i64 0, .slice (some ⟨b, 0, none⟩) 1 1]) u :=
  ⟨3, 0, some ⟨b, 0, none⟩, 1, k, by rw [h2], ⟨by rw [h2]; decide, h3, h4⟩, h5, .inr ⟨b, 0, rfl, h8⟩⟩
theorem tm_of_row2 {lo n : Nat} {b : Nat} {k : Fo} {u : World} (h2 : flen k = 2) (h3 : fok k = true) (h4 : Zf k) (h5 : fsz k < n) (h8 : Row u lo u.heap.size k b 0) : TmE lo n (.agg #[.int .i64 4, .int .i64 0, .slice (some ⟨b, 0, none⟩) 2 2]) u :=
  ⟨4, 0, some ⟨b, 0, none⟩, 2, k, by rw [h2], ⟨by rw [h2]; decide, h3, h4⟩, h5, .inr ⟨b, 0, rfl, h8⟩⟩
/-- One term of a row. -/
theorem pt_of_row {lo m n b y : Nat} {k : Fo} {u : World} (h2 : flen k = m) (h3 : fok k = true) (h4 : Zf k) (h5 : fsz k < n) (h6 : lo ≤ b) (h7 : b < u.heap.size) (h8 : Row u lo u.heap.size k b 0) (hy : y < m) : PtE lo n (.pointer (some ⟨b, y * 3, none⟩)) u := by
  obtain ⟨s, v, kk, a, c, ⟨x, z, hd⟩, _, _, c0, c1, c2, hsl⟩ := row_at h8 (show y < flen k by omega)
  simp only [Nat.zero_add] at c0 c1 c2
  have hk := fok_kid h3 hd
  have hz : Zf kk := by
    have : ∀ (j : Nat) (k : Fo) {x z : Nat} {p : Int × Int} {kk r : Fo}, Zf k → fdrop j k = .node x z p kk r → Zf kk := fun j => by
      induction j with
      | zero => intro k x z p kk r hz hd; simp only [fdrop] at hd; subst hd; exact (zf_node.1 hz).2.2.1
      | succ j ih =>
        intro k x z p kk r hz hd
        cases k with
        | nil => simp [fdrop] at hd
        | node _ _ _ _ r2 => exact ih r2 (zf_node.1 hz).2.2.2 (by simpa [fdrop] using hd)
    exact this y k h4 hd
  have hs := fsz_kid hd
  exact ⟨b, y * 3, s, v, a, c, kk, rfl, h6, h7, c0, c1, c2, ⟨hk.1, hk.2, hz⟩, by omega, hsl⟩
theorem eq_of_two {lo n n' : Nat} {s v s' v' : Int} {a a' : Option Addr} {c c' : Nat} {k k' : Fo} {u : World} (hok : OkZ s v k) (hn : fsz k < n) (hs : Sl u lo u.heap.size a k) (hok' : OkZ s' v' k') (hn' : fsz k' < n') (hs' : Sl u lo u.heap.size a' k') (h1 : n ≤ 16) (h2 : n' ≤ 16) :
    EqE lo (.agg #[.int .i64 s, .int .i64 v, .slice a (flen k) c, .int .i64 s', .int .i64 v', .slice a' (flen k') c']) u := ⟨s, v, a, c, k, s', v', a', c', k', rfl, hok, by omega, hs, hok', by omega, hs'⟩

/-- The world in the midst of such a region: the reader, the boxes x y z a b at lo - .., the result's box. -/
structure EqS (w : World) (br b0 B1 B2 B3 B4 B5 lo p1 n : Nat) (u : World) : Prop where
  adv : ∃ p', Adv w br p' u ∧ p1 ≤ p' ∧ p' ≤ p1 + n
  size : lo ≤ u.heap.size
  x : u.cell? ⟨B1, 0, none⟩ = some (.int .i64 0) ∧ u.cell? ⟨B1, 1, none⟩ = some (.int .i64 0) ∧ u.cell? ⟨B1, 2, none⟩ = some (.slice none 0 0)
  y : u.cell? ⟨B2, 0, none⟩ = some (.int .i64 0) ∧ u.cell? ⟨B2, 1, none⟩ = some (.int .i64 1) ∧ u.cell? ⟨B2, 2, none⟩ = some (.slice none 0 0)
  z : u.cell? ⟨B3, 0, none⟩ = some (.int .i64 0) ∧ u.cell? ⟨B3, 1, none⟩ = some (.int .i64 2) ∧ u.cell? ⟨B3, 2, none⟩ = some (.slice none 0 0)
  a : u.cell? ⟨B4, 0, none⟩ = some (.int .i64 1) ∧ u.cell? ⟨B4, 1, none⟩ = some (.int .i64 0) ∧ u.cell? ⟨B4, 2, none⟩ = some (.slice none 0 0)
  b : u.cell? ⟨B5, 0, none⟩ = some (.int .i64 2) ∧ u.cell? ⟨B5, 1, none⟩ = some (.int .i64 0) ∧ u.cell? ⟨B5, 2, none⟩ = some (.slice none 0 0)
  res : ∀ i, i < 6 → (∃ val, u.cell? ⟨b0, i, none⟩ = some val) ∧ u.frozen? ⟨b0, i, none⟩ = false
/-- At the head: the five boxes are made. -/
theorem EqS.start {w w1 w2 w3 w4 w5 : World} {br p : Nat} (hr : Rd w br p) (hb1 : Below (w.alloc (.cells #[.int .i64 0, .int .i64 0, .slice none 0 0, .int .i64 0, .int .i64 0, .slice none 0 0] 27)).heap.size (w.alloc (.cells #[.int .i64 0, .int .i64 0, .slice none 0 0, .int .i64 0, .int .i64 0, .slice none 0 0] 27)) w1)
    (hb2 : Below (w1.alloc (.cells #[.int .i64 0, .int .i64 0, .slice none 0 0] 25)).heap.size (w1.alloc (.cells #[.int .i64 0, .int .i64 0, .slice none 0 0] 25)) w2)
    (hb3 : Below (w2.alloc (.cells #[.int .i64 0, .int .i64 1, .slice none 0 0] 25)).heap.size (w2.alloc (.cells #[.int .i64 0, .int .i64 1, .slice none 0 0] 25)) w3)
    (hb4 : Below (w3.alloc (.cells #[.int .i64 0, .int .i64 2, .slice none 0 0] 25)).heap.size (w3.alloc (.cells #[.int .i64 0, .int .i64 2, .slice none 0 0] 25)) w4)
    (hb5 : Below (w4.alloc (.cells #[.int .i64 1, .int .i64 0, .slice none 0 0] 25)).heap.size (w4.alloc (.cells #[.int .i64 1, .int .i64 0, .slice none 0 0] 25)) w5) :
    (w.heap.size < w1.heap.size ∧ w1.heap.size < w2.heap.size ∧ w2.heap.size < w3.heap.size ∧ w3.heap.size < w4.heap.size ∧ w4.heap.size < w5.heap.size) ∧
    EqS w br w.heap.size w1.heap.size w2.heap.size w3.heap.size w4.heap.size w5.heap.size 0 p 0 (w5.alloc (.cells #[.int .i64 2, .int .i64 0, .slice none 0 0] 25)) := by
  have s1 := hb1.size
  have s2 := hb2.size
  have s3 := hb3.size
  have s4 := hb4.size
  have s5 := hb5.size
  simp only [World.size_alloc] at s1 s2 s3 s4 s5
  have cx : ∀ (u : World) (x y z : Value), (u.alloc (.cells #[x, y, z] 25)).cell? ⟨u.heap.size, 0, none⟩ = some x ∧ (u.alloc (.cells #[x, y, z] 25)).cell? ⟨u.heap.size, 1, none⟩ = some y ∧ (u.alloc (.cells #[x, y, z] 25)).cell? ⟨u.heap.size, 2, none⟩ = some z := fun u x y z => by
    refine ⟨?_, ?_, ?_⟩
    all_goals
      rw [World.cell?_alloc_at _ _ _ _ (by simp)]; rfl
  have a5 : ∀ {q : Addr} {x : Value}, w5.cell? q = some x → (w5.alloc (.cells #[.int .i64 2, .int .i64 0, .slice none 0 0] 25)).cell? q = some x := fun hq => cell_low (box_low _ _) hq
  have a4 : ∀ {q : Addr} {x : Value}, (w4.alloc (.cells #[.int .i64 1, .int .i64 0, .slice none 0 0] 25)).cell? q = some x → w5.cell? q = some x := fun hq => cell_low hb5 hq
  have a3 : ∀ {q : Addr} {x : Value}, (w3.alloc (.cells #[.int .i64 0, .int .i64 2, .slice none 0 0] 25)).cell? q = some x → w5.cell? q = some x := fun hq => a4 (cell_low (box_low _ _) (cell_low hb4 hq))
  have a2 : ∀ {q : Addr} {x : Value}, (w2.alloc (.cells #[.int .i64 0, .int .i64 1, .slice none 0 0] 25)).cell? q = some x → w5.cell? q = some x := fun hq => a3 (cell_low (box_low _ _) (cell_low hb3 hq))
  have a1 : ∀ {q : Addr} {x : Value}, (w1.alloc (.cells #[.int .i64 0, .int .i64 0, .slice none 0 0] 25)).cell? q = some x → w5.cell? q = some x := fun hq => a2 (cell_low (box_low _ _) (cell_low hb2 hq))
  have a0 : ∀ {q : Addr} {x : Value}, (w.alloc (.cells #[.int .i64 0, .int .i64 0, .slice none 0 0, .int .i64 0, .int .i64 0, .slice none 0 0] 27)).cell? q = some x → w5.cell? q = some x := fun hq => a1 (cell_low (box_low _ _) (cell_low hb1 hq))
  have hB : Below w.heap.size w (w5.alloc (.cells #[.int .i64 2, .int .i64 0, .slice none 0 0] 25)) :=
    ((((((((((Below.refl _ w).alloc (Nat.le_refl _) _).trans (hb1.mono (by simp))).alloc (by omega) _).trans (hb2.mono (by simp; omega))).alloc (by omega) _).trans (hb3.mono (by simp; omega))).alloc (by omega) _).trans (hb4.mono (by simp; omega))).alloc (by omega) _).trans (hb5.mono (by simp; omega)) |>.alloc (by omega) _
  refine ⟨⟨by omega, by omega, by omega, by omega, by omega⟩, ⟨p, Adv.start hr hB, Nat.le_refl _, Nat.le_refl _⟩, Nat.zero_le _, ?_, ?_, ?_, ?_, ?_, fun i hi => ⟨?_, ?_⟩⟩
  · obtain ⟨h0, h1, h2⟩ := cx w1 (.int .i64 0) (.int .i64 0) (.slice none 0 0)
    exact ⟨a5 (a1 h0), a5 (a1 h1), a5 (a1 h2)⟩
  · obtain ⟨h0, h1, h2⟩ := cx w2 (.int .i64 0) (.int .i64 1) (.slice none 0 0)
    exact ⟨a5 (a2 h0), a5 (a2 h1), a5 (a2 h2)⟩
  · obtain ⟨h0, h1, h2⟩ := cx w3 (.int .i64 0) (.int .i64 2) (.slice none 0 0)
    exact ⟨a5 (a3 h0), a5 (a3 h1), a5 (a3 h2)⟩
  · obtain ⟨h0, h1, h2⟩ := cx w4 (.int .i64 1) (.int .i64 0) (.slice none 0 0)
    exact ⟨a5 (a4 h0), a5 (a4 h1), a5 (a4 h2)⟩
  · exact cx w5 (.int .i64 2) (.int .i64 0) (.slice none 0 0)
  · have h6 : i = 0 ∨ i = 1 ∨ i = 2 ∨ i = 3 ∨ i = 4 ∨ i = 5 := by omega
    rcases h6 with rfl | rfl | rfl | rfl | rfl | rfl
    all_goals exact ⟨_, a5 (a0 (by rw [World.cell?_alloc_at _ _ _ _ (by simp)]; rfl))⟩
  · rw [Below.frozen (w := w.alloc (.cells #[.int .i64 0, .int .i64 0, .slice none 0 0, .int .i64 0, .int .i64 0, .slice none 0 0] 27)) (B := (w.alloc (.cells #[.int .i64 0, .int .i64 0, .slice none 0 0, .int .i64 0, .int .i64 0, .slice none 0 0] 27)).heap.size) ?_ (by simp)]
    · rw [World.frozen?_alloc_at _ _ _ _ (by simp)]
    · exact (((((((((hb1.alloc (by simp; omega) _).trans (hb2.mono (by simp; omega))).alloc (by simp; omega) _).trans (hb3.mono (by simp; omega))).alloc (by simp; omega) _).trans (hb4.mono (by simp; omega))).alloc (by simp; omega) _).trans (hb5.mono (by simp; omega))).alloc (by simp; omega) _)
/-- Memory is added. -/
theorem EqS.add {w : World} {br b0 B1 B2 B3 B4 B5 lo p1 n : Nat} {u u' : World} (h : EqS w br b0 B1 B2 B3 B4 B5 lo p1 n u) (hb : Below u.heap.size u u') : EqS w br b0 B1 B2 B3 B4 B5 lo p1 n u' := by
  obtain ⟨p', h1, h2, h3⟩ := h.adv
  have hc : ∀ {q : Addr} {x : Value}, u.cell? q = some x → u'.cell? q = some x := fun {q x} hq => cell_low hb hq
  exact ⟨⟨p', h1.more hb, h2, h3⟩, Nat.le_trans h.size hb.size, ⟨hc h.x.1, hc h.x.2.1, hc h.x.2.2⟩, ⟨hc h.y.1, hc h.y.2.1, hc h.y.2.2⟩, ⟨hc h.z.1, hc h.z.2.1, hc h.z.2.2⟩, ⟨hc h.a.1, hc h.a.2.1, hc h.a.2.2⟩, ⟨hc h.b.1, hc h.b.2.1, hc h.b.2.2⟩,
    fun i hi => by
      obtain ⟨⟨val, hv⟩, hf⟩ := h.res i hi
      exact ⟨⟨val, hc hv⟩, (hb.frozen (World.block_lt_of_cell? _ _ hv)).trans hf⟩⟩
theorem EqS.mono {w : World} {br b0 B1 B2 B3 B4 B5 lo p1 n n' : Nat} {u : World} (h : EqS w br b0 B1 B2 B3 B4 B5 lo p1 n u) (hn : n ≤ n') : EqS w br b0 B1 B2 B3 B4 B5 lo p1 n' u := by
  obtain ⟨p', h1, h2, h3⟩ := h.adv
  exact ⟨⟨p', h1, h2, by omega⟩, h.size, h.x, h.y, h.z, h.a, h.b, h.res⟩
/-- The reader goes on. -/
theorem EqS.pick {w : World} {br b0 B1 B2 B3 B4 B5 lo p1 n : Nat} {u u' : World} (h : EqS w br b0 B1 B2 B3 B4 B5 lo p1 n u) (hbr : br < w.heap.size) (h0 : w.heap.size ≤ b0) (h1 : w.heap.size ≤ B1) (h2 : w.heap.size ≤ B2) (h3 : w.heap.size ≤ B3) (h4 : w.heap.size ≤ B4) (h5 : w.heap.size ≤ B5) {p' : Nat} (hp : Adv w br p' u) (hp1 : p1 ≤ p') (hp2 : p' ≤ p1 + n) (hb : Adv u br (p' + 1) u') : EqS w br b0 B1 B2 B3 B4 B5 lo p1 (n + 1) u' := by
  have hc : ∀ {q : Addr} {x : Value}, w.heap.size ≤ q.block → u.cell? q = some x → u'.cell? q = some x := fun {q x} hq hx => hb.cell hx (by omega)
  exact ⟨⟨p' + 1, hp.trans hb, by omega, by omega⟩, Nat.le_trans h.size hb.size, ⟨hc h1 h.x.1, hc h1 h.x.2.1, hc h1 h.x.2.2⟩, ⟨hc h2 h.y.1, hc h2 h.y.2.1, hc h2 h.y.2.2⟩, ⟨hc h3 h.z.1, hc h3 h.z.2.1, hc h3 h.z.2.2⟩, ⟨hc h4 h.a.1, hc h4 h.a.2.1, hc h4 h.a.2.2⟩, ⟨hc h5 h.b.1, hc h5 h.b.2.1, hc h5 h.b.2.2⟩,
    fun i hi => by
      obtain ⟨⟨val, hv⟩, hf⟩ := h.res i hi
      exact ⟨⟨val, hc h0 hv⟩, (hb.frozen (World.block_lt_of_cell? _ _ hv)).trans hf⟩⟩
/-- A cell of the result is written. -/
theorem EqS.set {w : World} {br b0 B1 B2 B3 B4 B5 lo p1 n : Nat} {u : World} (h : EqS w br b0 B1 B2 B3 B4 B5 lo p1 n u) (h0 : w.heap.size ≤ b0) (h1 : b0 ≠ B1) (h2 : b0 ≠ B2) (h3 : b0 ≠ B3) (h4 : b0 ≠ B4) (h5 : b0 ≠ B5) (j : Nat) (x : Value) : EqS w br b0 B1 B2 B3 B4 B5 lo p1 n (u.setCell ⟨b0, j, none⟩ x) := by
  obtain ⟨p', ha, hp1, hp2⟩ := h.adv
  have hc : ∀ {B i : Nat} {y : Value}, b0 ≠ B → u.cell? ⟨B, i, none⟩ = some y → (u.setCell ⟨b0, j, none⟩ x).cell? ⟨B, i, none⟩ = some y := fun {B i y} hB hy => by
    rw [World.cell?_setCell_other _ _ _ _ (by intro e; exact hB (congrArg Addr.block e))]; exact hy
  exact ⟨⟨p', ha.store h0 _, hp1, hp2⟩, by simpa using h.size, ⟨hc h1 h.x.1, hc h1 h.x.2.1, hc h1 h.x.2.2⟩, ⟨hc h2 h.y.1, hc h2 h.y.2.1, hc h2 h.y.2.2⟩, ⟨hc h3 h.z.1, hc h3 h.z.2.1, hc h3 h.z.2.2⟩, ⟨hc h4 h.a.1, hc h4 h.a.2.1, hc h4 h.a.2.2⟩, ⟨hc h5 h.b.1, hc h5 h.b.2.1, hc h5 h.b.2.2⟩,
    fun i hi => by
      obtain ⟨⟨val, hv⟩, hf⟩ := h.res i hi
      refine ⟨?_, by rw [World.frozen?_setCell]; exact hf⟩
      by_cases e : (⟨b0, j, none⟩ : Addr) = ⟨b0, i, none⟩
      · rw [← e] at hv ⊢
        exact ⟨x, World.cell?_setCell_same _ _ _ hv⟩
      · exact ⟨val, by rw [World.cell?_setCell_other _ _ _ _ e]; exact hv⟩⟩
/-- The result's box holds an equation. -/
def EqD (lo b0 : Nat) (u : World) : Prop := ∃ s v a c k s' v' a' c' k', (u.cell? ⟨b0, 0, none⟩ = some (.int .i64 s) ∧ u.cell? ⟨b0, 1, none⟩ = some (.int .i64 v) ∧ u.cell? ⟨b0, 2, none⟩ = some (.slice a (flen k) c) ∧ u.cell? ⟨b0, 3, none⟩ = some (.int .i64 s') ∧ u.cell? ⟨b0, 4, none⟩ = some (.int .i64 v') ∧ u.cell? ⟨b0, 5, none⟩ = some (.slice a' (flen k') c')) ∧
  OkZ s v k ∧ fsz k < 16 ∧ Sl u lo u.heap.size a k ∧ OkZ s' v' k' ∧ fsz k' < 16 ∧ Sl u lo u.heap.size a' k'
theorem EqD.up {lo b0 : Nat} {u u' : World} (h : EqD lo b0 u) (hu : Up lo u u') (hc : ∀ (i : Nat) (x : Value), u.cell? ⟨b0, i, none⟩ = some x → u'.cell? ⟨b0, i, none⟩ = some x) : EqD lo b0 u' := by
  obtain ⟨s, v, a, c, k, s', v', a', c', k', ⟨c0, c1, c2, c3, c4, c5⟩, h1, h2, h3, h4, h5, h6⟩ := h
  exact ⟨s, v, a, c, k, s', v', a', c', k', ⟨hc _ _ c0, hc _ _ c1, hc _ _ c2, hc _ _ c3, hc _ _ c4, hc _ _ c5⟩, h1, h2, hu.sl h3, h4, h5, hu.sl h6⟩

/-- So many picks at most: one, and one more behind the pick of the region. -/
def ty_n (listed : Array Bool) (i : Nat) : Nat := 1 + (if listed.getD i false = true then 1 else 0)
theorem ty_was (i st : Nat) (hne : i ≠ st) {listed : Array Bool} (h : (listed.setIfInBounds i true).getD st false = true) : listed.getD st false = true := by
  simp only [Array.getD_eq_getD_getElem?] at h ⊢
  rwa [Array.getElem?_setIfInBounds_ne hne] at h
theorem ty_bound (listed : Array Bool) (i j : Nat) : ty_n listed j ≤ ty_n (listed.setIfInBounds i true) j := by
  unfold ty_n
  by_cases h : listed.getD j false = true
  · have : (listed.setIfInBounds i true).getD j false = true := by
      by_cases e : i = j
      · subst e
        have hlt : i < listed.size := by
          rcases Nat.lt_or_ge i listed.size with h' | h'
          · exact h'
          · simp [Array.getElem?_eq_none h'] at h
        simp [hlt]
      · simp only [Array.getD_eq_getD_getElem?] at h ⊢
        rwa [Array.getElem?_setIfInBounds_ne e]
    rw [if_pos h, if_pos this]
    exact Nat.le_refl _
  · rw [if_neg h]; omega
theorem ty_not {listed : Array Bool} {i : Nat} (h : listed.getD i true = false) : ty_n listed i = 1 := by
  unfold ty_n
  rw [if_neg]
  rw [listed_no h]
  simp
theorem ty_now {listed : Array Bool} {i : Nat} (h : listed.getD i true = false) : 1 + 1 ≤ ty_n (listed.setIfInBounds i true) i := by
  have hlt : i < listed.size := by
    rcases Nat.lt_or_ge i listed.size with h' | h'
    · exact h'
    · simp [Array.getElem?_eq_none h'] at h
  unfold ty_n
  rw [if_pos (by simp [hlt])]
  exact Nat.le_refl _
/-- The six cells of the result are written. -/
def st6 (u : World) (b : Nat) (s v : Int) (a : Value) (s' v' : Int) (a' : Value) : World := (((((u.setCell ⟨b, 0, none⟩ (.int .i64 s)).setCell ⟨b, 1, none⟩ (.int .i64 v)).setCell ⟨b, 2, none⟩ a).setCell ⟨b, 3, none⟩ (.int .i64 s')).setCell ⟨b, 4, none⟩ (.int .i64 v')).setCell ⟨b, 5, none⟩ a'
theorem st6_up {lo b : Nat} {u : World} (h : b < lo) (s v : Int) (a : Value) (s' v' : Int) (a' : Value) : Up lo u (st6 u b s v a s' v' a') := by
  unfold st6
  have h0 : Same lo u.heap.size u u := fun _ _ _ => rfl
  exact ⟨by simp, (((((h0.setCell (.inl h) _).setCell (.inl h) _).setCell (.inl h) _).setCell (.inl h) _).setCell (.inl h) _).setCell (.inl h) _⟩
theorem st6_eqs {w : World} {br b0 B1 B2 B3 B4 B5 lo p1 n : Nat} {u : World} (h : EqS w br b0 B1 B2 B3 B4 B5 lo p1 n u) (h0 : w.heap.size ≤ b0) (h1 : b0 ≠ B1) (h2 : b0 ≠ B2) (h3 : b0 ≠ B3) (h4 : b0 ≠ B4) (h5 : b0 ≠ B5) (s v : Int) (a : Value) (s' v' : Int) (a' : Value) : EqS w br b0 B1 B2 B3 B4 B5 lo p1 n (st6 u b0 s v a s' v' a') := by
  unfold st6
  exact (((((h.set h0 h1 h2 h3 h4 h5 _ _).set h0 h1 h2 h3 h4 h5 _ _).set h0 h1 h2 h3 h4 h5 _ _).set h0 h1 h2 h3 h4 h5 _ _).set h0 h1 h2 h3 h4 h5 _ _).set h0 h1 h2 h3 h4 h5 _ _
theorem st6_cells {w : World} {br b0 B1 B2 B3 B4 B5 lo p1 n : Nat} {u : World} (h : EqS w br b0 B1 B2 B3 B4 B5 lo p1 n u) (s v : Int) (a : Value) (s' v' : Int) (a' : Value) :
    (st6 u b0 s v a s' v' a').cell? ⟨b0, 0, none⟩ = some (.int .i64 s) ∧ (st6 u b0 s v a s' v' a').cell? ⟨b0, 1, none⟩ = some (.int .i64 v) ∧ (st6 u b0 s v a s' v' a').cell? ⟨b0, 2, none⟩ = some a ∧ (st6 u b0 s v a s' v' a').cell? ⟨b0, 3, none⟩ = some (.int .i64 s') ∧ (st6 u b0 s v a s' v' a').cell? ⟨b0, 4, none⟩ = some (.int .i64 v') ∧ (st6 u b0 s v a s' v' a').cell? ⟨b0, 5, none⟩ = some a' := by
  have ne : ∀ {i j : Nat}, i ≠ j → (⟨b0, i, none⟩ : Addr) ≠ ⟨b0, j, none⟩ := fun hij e => hij (congrArg Addr.off e)
  obtain ⟨⟨m0, e0⟩, _⟩ := h.res 0 (by omega)
  obtain ⟨⟨m1, e1⟩, _⟩ := h.res 1 (by omega)
  obtain ⟨⟨m2, e2⟩, _⟩ := h.res 2 (by omega)
  obtain ⟨⟨m3, e3⟩, _⟩ := h.res 3 (by omega)
  obtain ⟨⟨m4, e4⟩, _⟩ := h.res 4 (by omega)
  obtain ⟨⟨m5, e5⟩, _⟩ := h.res 5 (by omega)
  unfold st6
  refine ⟨?_, ?_, ?_, ?_, ?_, ?_⟩
  · rw [World.cell?_setCell_other _ _ _ _ (ne (by decide)), World.cell?_setCell_other _ _ _ _ (ne (by decide)), World.cell?_setCell_other _ _ _ _ (ne (by decide)), World.cell?_setCell_other _ _ _ _ (ne (by decide)), World.cell?_setCell_other _ _ _ _ (ne (by decide))]
    exact World.cell?_setCell_same _ _ _ e0
  · rw [World.cell?_setCell_other _ _ _ _ (ne (by decide)), World.cell?_setCell_other _ _ _ _ (ne (by decide)), World.cell?_setCell_other _ _ _ _ (ne (by decide)), World.cell?_setCell_other _ _ _ _ (ne (by decide))]
    refine World.cell?_setCell_same _ _ _ (?_ : _ = some m1)
    rw [World.cell?_setCell_other _ _ _ _ (ne (by decide))]; exact e1
  · rw [World.cell?_setCell_other _ _ _ _ (ne (by decide)), World.cell?_setCell_other _ _ _ _ (ne (by decide)), World.cell?_setCell_other _ _ _ _ (ne (by decide))]
    refine World.cell?_setCell_same _ _ _ (?_ : _ = some m2)
    rw [World.cell?_setCell_other _ _ _ _ (ne (by decide)), World.cell?_setCell_other _ _ _ _ (ne (by decide))]; exact e2
  · rw [World.cell?_setCell_other _ _ _ _ (ne (by decide)), World.cell?_setCell_other _ _ _ _ (ne (by decide))]
    refine World.cell?_setCell_same _ _ _ (?_ : _ = some m3)
    rw [World.cell?_setCell_other _ _ _ _ (ne (by decide)), World.cell?_setCell_other _ _ _ _ (ne (by decide)), World.cell?_setCell_other _ _ _ _ (ne (by decide))]; exact e3
  · rw [World.cell?_setCell_other _ _ _ _ (ne (by decide))]
    refine World.cell?_setCell_same _ _ _ (?_ : _ = some m4)
    rw [World.cell?_setCell_other _ _ _ _ (ne (by decide)), World.cell?_setCell_other _ _ _ _ (ne (by decide)), World.cell?_setCell_other _ _ _ _ (ne (by decide)), World.cell?_setCell_other _ _ _ _ (ne (by decide))]; exact e4
  · refine World.cell?_setCell_same _ _ _ (?_ : _ = some m5)
    rw [World.cell?_setCell_other _ _ _ _ (ne (by decide)), World.cell?_setCell_other _ _ _ _ (ne (by decide)), World.cell?_setCell_other _ _ _ _ (ne (by decide)), World.cell?_setCell_other _ _ _ _ (ne (by decide)), World.cell?_setCell_other _ _ _ _ (ne (by decide))]; exact e5
theorem st6_eqd {w : World} {br b0 B1 B2 B3 B4 B5 lo p1 n : Nat} {u : World} (h : EqS w br b0 B1 B2 B3 B4 B5 lo p1 n u) (hb : b0 < lo) {s v s' v' : Int} {a a' : Option Addr} {c c' : Nat} {k k' : Fo} (ok1 : OkZ s v k) (z1 : fsz k < 16) (l1 : Sl u lo u.heap.size a k) (ok2 : OkZ s' v' k') (z2 : fsz k' < 16) (l2 : Sl u lo u.heap.size a' k') :
    EqD lo b0 (st6 u b0 s v (.slice a (flen k) c) s' v' (.slice a' (flen k') c')) :=
  ⟨s, v, a, c, k, s', v', a', c', k', st6_cells h _ _ _ _ _ _, ok1, z1, (st6_up hb _ _ _ _ _ _).sl l1, ok2, z2, (st6_up hb _ _ _ _ _ _).sl l2⟩

/-- The reader goes on by more. -/
theorem EqS.more {w : World} {br b0 B1 B2 B3 B4 B5 lo p1 n n' : Nat} {u u' : World} (h : EqS w br b0 B1 B2 B3 B4 B5 lo p1 n u) (hbr : br < w.heap.size) (h0 : w.heap.size ≤ b0) (h1 : w.heap.size ≤ B1) (h2 : w.heap.size ≤ B2) (h3 : w.heap.size ≤ B3) (h4 : w.heap.size ≤ B4) (h5 : w.heap.size ≤ B5) {p' q : Nat} (hp : Adv w br p' u) (hp1 : p1 ≤ q) (hp2 : q ≤ p1 + n') (hb : Adv u br q u') : EqS w br b0 B1 B2 B3 B4 B5 lo p1 n' u' := by
  have hc : ∀ {q : Addr} {x : Value}, w.heap.size ≤ q.block → u.cell? q = some x → u'.cell? q = some x := fun {q x} hq hx => hb.cell hx (by omega)
  exact ⟨⟨q, hp.trans hb, by omega, by omega⟩, Nat.le_trans h.size hb.size, ⟨hc h1 h.x.1, hc h1 h.x.2.1, hc h1 h.x.2.2⟩, ⟨hc h2 h.y.1, hc h2 h.y.2.1, hc h2 h.y.2.2⟩, ⟨hc h3 h.z.1, hc h3 h.z.2.1, hc h3 h.z.2.2⟩, ⟨hc h4 h.a.1, hc h4 h.a.2.1, hc h4 h.a.2.2⟩, ⟨hc h5 h.b.1, hc h5 h.b.2.1, hc h5 h.b.2.2⟩,
    fun i hi => by
      obtain ⟨⟨val, hv⟩, hf⟩ := h.res i hi
      exact ⟨⟨val, hc h0 hv⟩, (hb.frozen (World.block_lt_of_cell? _ _ hv)).trans hf⟩⟩
end Go.Proofs.YtbnbogdglffkmaaGreatDoor
