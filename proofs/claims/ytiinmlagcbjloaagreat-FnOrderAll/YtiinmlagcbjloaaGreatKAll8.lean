/- Several texts in one: H0, Mix2, G4r. -/
import Derived.Test.YtiinmlagcbjloaaGreatKAll7
import Derived.Test.YtiinmlagcbjloaaGreatKAll4
import Derived.Test.YtiinmlagcbjloaaGreatKAll6

/-! H0: Terms laid flat while they are being laid: what is the call's own, and what stays. Definitions and plain lemmas. -/
namespace Go.Proofs.YtiinmlagcbjloaaGreat
open Go.RowKit Go.Deep

/-- Only block g's cells po and po + 1, and blocks of O, may have changed. -/
structure Touch (g po : Nat) (O : Nat → Prop) (w w' : World) : Prop where
  os : w'.os = w.os
  tape : w'.tape = w.tape
  output : w'.output = w.output
  size : w.heap.size ≤ w'.heap.size
  block : ∀ k, k < w.heap.size → k ≠ g → ¬ O k → w'.heap[k]? = w.heap[k]?
  cell : ∀ o, o ≠ po → o ≠ po + 1 → w'.cell? ⟨g, o, none⟩ = w.cell? ⟨g, o, none⟩
  free : ∀ o, w'.frozen? ⟨g, o, none⟩ = w.frozen? ⟨g, o, none⟩
theorem Touch.refl {g po : Nat} {O : Nat → Prop} {w : World} : Touch g po O w w := ⟨rfl, rfl, rfl, Nat.le_refl _, fun _ _ _ _ => rfl, fun _ _ _ => rfl, fun _ => rfl⟩
theorem Touch.trans {g po : Nat} {O O1 : Nat → Prop} {w w1 w2 : World} (h : Touch g po O w w1) (h' : Touch g po O1 w1 w2) (ho : ∀ k, k < w.heap.size → O1 k → O k) : Touch g po O w w2 :=
  ⟨h'.os.trans h.os, h'.tape.trans h.tape, h'.output.trans h.output, Nat.le_trans h.size h'.size,
    fun k hk hg hO => by rw [h'.block k (Nat.lt_of_lt_of_le hk h.size) hg (fun hh => hO (ho k hk hh)), h.block k hk hg hO],
    fun o h1 h2 => by rw [h'.cell o h1 h2, h.cell o h1 h2], fun o => by rw [h'.free o, h.free o]⟩
theorem Touch.below {g po : Nat} {O : Nat → Prop} {w w1 w2 : World} (h : Touch g po O w w1) (hb : Below w1.heap.size w1 w2) (hg : g < w1.heap.size) : Touch g po O w w2 :=
  ⟨hb.os.trans h.os, hb.tape.trans h.tape, hb.output.trans h.output, Nat.le_trans h.size hb.size,
    fun k hk hg hO => by rw [hb.block k (Nat.lt_of_lt_of_le hk h.size), h.block k hk hg hO],
    fun o h1 h2 => by rw [hb.cell (by simpa using hg), h.cell o h1 h2], fun o => by rw [hb.frozen (by simpa using hg), h.free o]⟩
theorem Touch.grown {g po : Nat} {O : Nat → Prop} {w w1 w2 : World} {row : Option Nat} (h : Touch g po O w w1) (hb : w1.grownBy w2 row) (hg : g < w1.heap.size) (hr : ∀ k, row = some k → k ≠ g ∧ (k < w.heap.size → O k)) : Touch g po O w w2 :=
  ⟨hb.os.trans h.os, hb.tape.trans h.tape, hb.output.trans h.output, Nat.le_trans h.size hb.size,
    fun k hk hg hO => by rw [hb.block k (Nat.lt_of_lt_of_le hk h.size) (fun e => hO ((hr k e.symm).2 hk)), h.block k hk hg hO],
    fun o h1 h2 => by rw [World.cell?_of_block (hb.block g hg (fun e => (hr g e.symm).1 rfl)), h.cell o h1 h2], fun o => by rw [World.frozen?_of_block (hb.block g hg (fun e => (hr g e.symm).1 rfl)), h.free o]⟩
theorem Touch.set {g po : Nat} {O : Nat → Prop} {w w1 : World} (h : Touch g po O w w1) {p i : Nat} (hp : p ≠ g) (hO : p < w.heap.size → O p) (x : Value) : Touch g po O w (w1.setCell ⟨p, i, none⟩ x) :=
  ⟨h.os, h.tape, h.output, by simpa using h.size,
    fun k hk hg hn => by rw [Below.heap_setCell _ _ _ _ (by intro e; simp at e; subst e; exact hn (hO hk))]; exact h.block k hk hg hn,
    fun o h1 h2 => by rw [World.cell?_setCell_other _ _ _ _ (by intro e; exact hp (congrArg Addr.block e))]; exact h.cell o h1 h2, fun o => by rw [World.frozen?_setCell]; exact h.free o⟩
theorem Touch.setG {g po : Nat} {O : Nat → Prop} {w w1 : World} (h : Touch g po O w w1) {i : Nat} (hi : i = po ∨ i = po + 1) (x : Value) : Touch g po O w (w1.setCell ⟨g, i, none⟩ x) :=
  ⟨h.os, h.tape, h.output, by simpa using h.size,
    fun k hk hg hn => by rw [Below.heap_setCell _ _ _ _ (by simpa using hg)]; exact h.block k hk hg hn,
    fun o h1 h2 => by rw [World.cell?_setCell_other _ _ _ _ (by intro e; have := congrArg Addr.off e; simp at this; omega)]; exact h.cell o h1 h2, fun o => by rw [World.frozen?_setCell]; exact h.free o⟩

structure FV where
  A : Option Addr
  CA : Nat
  K : Option Addr
  CK : Nat
  xs : List Value
  ks : List Value
abbrev FV.a (F : FV) (n : Nat) : Value := .slice F.A n F.CA
abbrev FV.k (F : FV) (n : Nat) : Value := .slice F.K n F.CK

/-- The terms ts and the numbers of their kids lie behind block g's cells po and po + 1, in blocks O of the call's own, from D on. -/
structure Flat (w : World) (D g po : Nat) (O : Nat → Prop) (F : FV) (ts : List (Int × Int × Fo)) (rows : List (List Int)) : Prop where
  gD : g < D
  big : D ≤ w.heap.size
  cA : w.cell? ⟨g, po, none⟩ = some (F.a ts.length)
  cK : w.cell? ⟨g, po + 1, none⟩ = some (F.k rows.length)
  zA : w.frozen? ⟨g, po, none⟩ = false
  zK : w.frozen? ⟨g, po + 1, none⟩ = false
  oA : w.ownsRow D 26 3 (F.a ts.length) ts.length F.xs
  oK : w.ownsRow D 23 1 (F.k rows.length) rows.length F.ks
  Ob : ∀ q, O q → D ≤ q ∧ q < w.heap.size
  bA : ∀ q, (F.a ts.length).ownBlock = some q → O q
  bK : ∀ q, (F.k rows.length).ownBlock = some q → O q
  AK : ∀ q, (F.a ts.length).ownBlock = some q → (F.k rows.length).ownBlock = some q → False
  term : ∀ (i : Nat) (t : Int × Int × Fo), ts[i]? = some t → ∃ a c, F.xs[i * 3]? = some (.int .i64 t.1) ∧ F.xs[i * 3 + 1]? = some (.int .i64 t.2.1) ∧ F.xs[i * 3 + 2]? = some (.slice a (flen t.2.2) c) ∧ Sl w 0 g a t.2.2
  row : ∀ (i : Nat) (r : List Int), rows[i]? = some r → ∃ a c, F.ks[i]? = some (Value.slice a r.length c) ∧ IOwn w D r a c ∧ ∀ q, (Value.slice a r.length c).ownBlock = some q → O q ∧ (F.a ts.length).ownBlock ≠ some q ∧ (F.k rows.length).ownBlock ≠ some q
  apart : ∀ (i j : Nat) (x y : Value) (q : Nat), i ≠ j → F.ks[i]? = some x → F.ks[j]? = some y → x.ownBlock = some q → y.ownBlock = some q → False

section
variable {w w' : World} {D g po : Nat} {O : Nat → Prop} {F : FV} {ts : List (Int × Int × Fo)} {rows : List (List Int)}
theorem Flat.kl (h : Flat w D g po O F ts rows) : F.ks.length = rows.length := by have := h.oK.1; omega
theorem Flat.xl (h : Flat w D g po O F ts rows) : F.xs.length = ts.length * 3 := h.oA.1
theorem Flat.bg (h : Flat w D g po O F ts rows) : ¬ O g := fun hh => by have := h.Ob g hh; have := h.gD; omega

/-- What is not the flat's own may change. -/
theorem Flat.frame (h : Flat w D g po O F ts rows) (hs : w.heap.size ≤ w'.heap.size) (hb : ∀ k, k < g ∨ O k → w'.heap[k]? = w.heap[k]?) (c0 : w'.cell? ⟨g, po, none⟩ = w.cell? ⟨g, po, none⟩) (c1 : w'.cell? ⟨g, po + 1, none⟩ = w.cell? ⟨g, po + 1, none⟩)
    (z0 : w'.frozen? ⟨g, po, none⟩ = w.frozen? ⟨g, po, none⟩) (z1 : w'.frozen? ⟨g, po + 1, none⟩ = w.frozen? ⟨g, po + 1, none⟩) : Flat w' D g po O F ts rows := by
  refine ⟨h.gD, Nat.le_trans h.big hs, c0.trans h.cA, c1.trans h.cK, z0.trans h.zA, z1.trans h.zK, own_block h.oA fun q hq => hb q (.inr (h.bA q hq)), own_block h.oK fun q hq => hb q (.inr (h.bK q hq)), fun q hq => ⟨(h.Ob q hq).1, Nat.lt_of_lt_of_le (h.Ob q hq).2 hs⟩, h.bA, h.bK, h.AK, fun i t ht => ?_, fun i r hr => ?_, h.apart⟩
  · obtain ⟨a, c, h0, h1, h2, h3⟩ := h.term i t ht
    exact ⟨a, c, h0, h1, h2, h3.same fun b _ hb' => hb b (.inl hb')⟩
  · obtain ⟨a, c, h0, h1, h2⟩ := h.row i r hr
    exact ⟨a, c, h0, own_block h1 fun q hq => hb q (.inr (h2 q hq).1), h2⟩
theorem Flat.low (h : Flat w D g po O F ts rows) (hb : Below w.heap.size w w') : Flat w' D g po O F ts rows := by
  have h1 := h.gD
  have h2 := h.big
  exact h.frame hb.size (fun k hk => hb.block k (hk.elim (fun hk => by omega) fun hk => (h.Ob k hk).2)) (hb.cell (by simp; omega)) (hb.cell (by simp; omega)) (hb.frozen (by simp; omega)) (hb.frozen (by simp; omega))

/-- One more term. -/
theorem Flat.addTerm {s v : Int} {k : Fo} {a : Option Addr} {c q cap : Nat} (h : Flat w D g po O F ts rows) (hsz : w.heap.size ≤ w'.heap.size)
    (hown : w'.ownsRow D 26 3 (.slice (some ⟨q, 0, none⟩) (ts.length + 1) cap) (ts.length + 1) (F.xs ++ [.int .i64 s, .int .i64 v, .slice a (flen k) c]))
    (hat : (F.a ts.length).ownBlock = some q ∨ w.heap.size ≤ q)
    (hblk : ∀ b, b < w.heap.size → b ≠ g → (F.a ts.length).ownBlock ≠ some b → w'.heap[b]? = w.heap[b]?)
    (c0 : w'.cell? ⟨g, po, none⟩ = some (.slice (some ⟨q, 0, none⟩) (ts.length + 1) cap)) (c1 : w'.cell? ⟨g, po + 1, none⟩ = w.cell? ⟨g, po + 1, none⟩) (z : ∀ o, w'.frozen? ⟨g, o, none⟩ = w.frozen? ⟨g, o, none⟩) (hsl : Sl w 0 g a k) :
    Flat w' D g po (fun b => O b ∨ b = q) ⟨some ⟨q, 0, none⟩, cap, F.K, F.CK, F.xs ++ [.int .i64 s, .int .i64 v, .slice a (flen k) c], F.ks⟩ (ts ++ [(s, v, k)]) rows := by
  have hgD := h.gD
  have hbig := h.big
  have hl : (ts ++ [(s, v, k)]).length = ts.length + 1 := by simp
  have hq : q < w'.heap.size := (hown.lt q rfl).2
  have hqD : D ≤ q := (hown.lt q rfl).1
  have hxl := h.xl
  have hlow : ∀ b, b < g → w'.heap[b]? = w.heap[b]? := fun b hb => hblk b (by omega) (by omega) fun e => by have := (h.oA.lt b e).1; omega
  refine ⟨h.gD, by omega, by rw [hl]; exact c0, c1.trans h.cK, (z _).trans h.zA, (z _).trans h.zK, by rw [hl]; exact hown, own_block h.oK fun b hb => hblk b (h.oK.lt b hb).2 (fun e => by have := (h.oK.lt b hb).1; omega) fun e => h.AK b e hb, fun b hb => ?_, fun b hb => ?_, fun b hb => .inl (h.bK b hb), fun b h1 h2 => ?_, fun i t ht => ?_, fun i r hr => ?_, h.apart⟩
  · rcases hb with hb | rfl
    · have := h.Ob b hb; omega
    · omega
  · have : b = q := by simpa [FV.a, Value.ownBlock] using hb.symm
    exact .inr this
  · have : b = q := by simpa [FV.a, Value.ownBlock] using h1.symm
    subst this
    rcases hat with hat | hat
    · exact h.AK b hat h2
    · have := (h.oK.lt b h2).2; omega
  · by_cases hi : i < ts.length
    · rw [List.getElem?_append_left hi] at ht
      obtain ⟨a', c', h0, h1, h2, h3⟩ := h.term i t ht
      exact ⟨a', c', by rw [List.getElem?_append_left (by omega)]; exact h0, by rw [List.getElem?_append_left (by omega)]; exact h1, by rw [List.getElem?_append_left (by omega)]; exact h2, h3.same fun b _ hb' => hlow b hb'⟩
    · have hi' : i = ts.length := by
        have := (List.getElem?_eq_some_iff.1 ht).1
        omega
      subst hi'
      simp at ht
      subst ht
      refine ⟨a, c, ?_, ?_, ?_, hsl.same fun b _ hb' => hlow b hb'⟩
      · rw [List.getElem?_append_right (by omega), hxl]; simp
      · rw [List.getElem?_append_right (by omega), hxl, show ts.length * 3 + 1 - ts.length * 3 = 1 from by omega]; rfl
      · rw [List.getElem?_append_right (by omega), hxl, show ts.length * 3 + 2 - ts.length * 3 = 2 from by omega]; rfl
  · obtain ⟨a', c', h0, h1, h2⟩ := h.row i r hr
    refine ⟨a', c', h0, own_block h1 fun b hb => hblk b (h1.lt b hb).2 (fun e => by have := (h1.lt b hb).1; omega) (h2 b hb).2.1, fun b hb => ⟨.inl (h2 b hb).1, fun e => ?_, (h2 b hb).2.2⟩⟩
    have : b = q := by simpa [FV.a, Value.ownBlock] using e.symm
    subst this
    rcases hat with hat | hat
    · exact (h2 b hb).2.1 hat
    · have := (h1.lt b hb).2; omega

/-- One more row of kids' numbers, empty. -/
theorem Flat.addRow {q cap p0 : Nat} (h : Flat w D g po O F ts rows)
    (hown : w'.ownsRow D 23 1 (.slice (some ⟨q, 0, none⟩) (rows.length + 1) cap) (rows.length + 1) (F.ks ++ [.slice (some ⟨p0, 0, none⟩) 0 0]))
    (hat : (F.k rows.length).ownBlock = some q ∨ w.heap.size ≤ q) (hp0 : w.heap.size ≤ p0) (hpq : p0 ≠ q) (hr0 : IOwn w' D [] (some ⟨p0, 0, none⟩) 0)
    (hblk : ∀ b, b < w.heap.size → b ≠ g → (F.k rows.length).ownBlock ≠ some b → w'.heap[b]? = w.heap[b]?)
    (c1 : w'.cell? ⟨g, po + 1, none⟩ = some (.slice (some ⟨q, 0, none⟩) (rows.length + 1) cap)) (c0 : w'.cell? ⟨g, po, none⟩ = w.cell? ⟨g, po, none⟩) (z : ∀ o, w'.frozen? ⟨g, o, none⟩ = w.frozen? ⟨g, o, none⟩) :
    Flat w' D g po (fun b => O b ∨ b = q ∨ b = p0) ⟨F.A, F.CA, some ⟨q, 0, none⟩, cap, F.xs, F.ks ++ [.slice (some ⟨p0, 0, none⟩) 0 0]⟩ ts (rows ++ [[]]) := by
  have hgD := h.gD
  have hbig := h.big
  have hl : (rows ++ [([] : List Int)]).length = rows.length + 1 := by simp
  have hq := hown.lt q rfl
  have hp := hr0.lt p0 rfl
  have hkl := h.kl
  have hlow : ∀ b, b < g → w'.heap[b]? = w.heap[b]? := fun b hb => hblk b (by omega) (by omega) fun e => by have := (h.oK.lt b e).1; omega
  have hA : ∀ b, (F.a ts.length).ownBlock = some b → b ≠ q ∧ b ≠ p0 := fun b hb => by
    have h1 := (h.oA.lt b hb).2
    refine ⟨fun e => ?_, by omega⟩
    subst e
    rcases hat with hat | hat
    · exact h.AK b hb hat
    · omega
  refine ⟨h.gD, by omega, c0.trans h.cA, by rw [hl]; exact c1, (z _).trans h.zA, (z _).trans h.zK, own_block h.oA fun b hb => hblk b (h.oA.lt b hb).2 (fun e => by have := (h.oA.lt b hb).1; omega) fun e => h.AK b hb e, by rw [hl]; exact hown, fun b hb => ?_, fun b hb => .inl (h.bA b hb), fun b hb => ?_, fun b h1 h2 => ?_, fun i t ht => ?_, fun i r hr => ?_, fun i j x y b hij hx hy h1 h2 => ?_⟩
  · rcases hb with hb | rfl | rfl
    · have := h.Ob b hb; omega
    · omega
    · omega
  · have : b = q := by simpa [FV.k, Value.ownBlock] using hb.symm
    exact .inr (.inl this)
  · have : b = q := by simpa [FV.k, Value.ownBlock] using h2.symm
    exact (hA b h1).1 this
  · obtain ⟨a', c', h0, h1, h2, h3⟩ := h.term i t ht
    exact ⟨a', c', h0, h1, h2, h3.same fun b _ hb' => hlow b hb'⟩
  · rw [hl]
    by_cases hi : i < rows.length
    · rw [List.getElem?_append_left hi] at hr
      obtain ⟨a', c', h0, h1, h2⟩ := h.row i r hr
      refine ⟨a', c', by rw [List.getElem?_append_left (by omega)]; exact h0, own_block h1 fun b hb => hblk b (h1.lt b hb).2 (fun e => by have := (h1.lt b hb).1; omega) (h2 b hb).2.2, fun b hb => ⟨.inl (h2 b hb).1, (h2 b hb).2.1, fun e => ?_⟩⟩
      have : b = q := by simpa [FV.k, Value.ownBlock] using e.symm
      subst this
      rcases hat with hat | hat
      · exact (h2 b hb).2.2 hat
      · have := (h1.lt b hb).2; omega
    · have hi' : i = rows.length := by
        have := (List.getElem?_eq_some_iff.1 hr).1
        omega
      subst hi'
      simp at hr
      subst hr
      refine ⟨some ⟨p0, 0, none⟩, 0, by rw [← hkl]; simp, hr0, fun b hb => ?_⟩
      have : b = p0 := by simpa [Value.ownBlock] using hb.symm
      subst this
      exact ⟨.inr (.inr rfl), fun e => (hA _ e).2 rfl, fun e => hpq (by simpa [FV.k, Value.ownBlock] using e.symm)⟩
  · have hold : ∀ (m : Nat) (z : Value), m < F.ks.length → F.ks[m]? = some z → z.ownBlock ≠ some p0 := fun m z hm hz e => by
      obtain ⟨a', c', h0, h1', _⟩ := h.row m rows[m] (List.getElem?_eq_getElem (by omega))
      rw [hz] at h0
      obtain rfl := Option.some.inj h0
      have := (h1'.lt p0 e).2
      omega
    have hnew : ∀ (m : Nat) (z : Value), ¬ m < F.ks.length → (F.ks ++ [Value.slice (some ⟨p0, 0, none⟩) 0 0])[m]? = some z → m = F.ks.length ∧ z = .slice (some ⟨p0, 0, none⟩) 0 0 := fun m z hm hz => by
      have h1 := (List.getElem?_eq_some_iff.1 hz).1
      simp at h1
      have : m = F.ks.length := by omega
      subst this
      simp at hz
      exact ⟨rfl, hz.symm⟩
    by_cases hi : i < F.ks.length
    · rw [List.getElem?_append_left hi] at hx
      by_cases hj : j < F.ks.length
      · rw [List.getElem?_append_left hj] at hy
        exact h.apart i j x y b hij hx hy h1 h2
      · obtain ⟨_, rfl⟩ := hnew j y hj hy
        have : b = p0 := by simpa [Value.ownBlock] using h2.symm
        subst this
        exact hold i x hi hx h1
    · obtain ⟨hi', rfl⟩ := hnew i x hi hx
      have : b = p0 := by simpa [Value.ownBlock] using h1.symm
      subst this
      by_cases hj : j < F.ks.length
      · rw [List.getElem?_append_left hj] at hy
        exact hold j y hj hy h2
      · obtain ⟨hj', _⟩ := hnew j y hj hy
        omega

/-- One more number in a row. -/
theorem Flat.addNum {i q cap c : Nat} {r : List Int} {x : Int} {a : Option Addr} (h : Flat w D g po O F ts rows) (hsz : w.heap.size ≤ w'.heap.size) (hr : rows[i]? = some r) (hx : F.ks[i]? = some (.slice a r.length c))
    (hown : IOwn w' D (r ++ [x]) (some ⟨q, 0, none⟩) cap) (hat : (Value.slice a r.length c).ownBlock = some q ∨ w.heap.size ≤ q)
    (hownK : w'.ownsRow D 23 1 (F.k rows.length) rows.length (F.ks.set i (.slice (some ⟨q, 0, none⟩) (r.length + 1) cap)))
    (hblk : ∀ b, b < w.heap.size → (Value.slice a r.length c).ownBlock ≠ some b → (F.k rows.length).ownBlock ≠ some b → w'.heap[b]? = w.heap[b]?) :
    Flat w' D g po (fun b => O b ∨ b = q) ⟨F.A, F.CA, F.K, F.CK, F.xs, F.ks.set i (.slice (some ⟨q, 0, none⟩) (r.length + 1) cap)⟩ ts (rows.set i (r ++ [x])) := by
  have hgD := h.gD
  have hbig := h.big
  have hl : (rows.set i (r ++ [x])).length = rows.length := by simp
  have hi : i < rows.length := (List.getElem?_eq_some_iff.1 hr).1
  have hrl : (r ++ [x]).length = r.length + 1 := by simp
  have hkl := h.kl
  have hq := hown.lt q rfl
  obtain ⟨a0, c0, hx0, hio, hap⟩ := h.row i r hr
  rw [hx] at hx0
  simp only [Option.some.injEq, Value.slice.injEq] at hx0
  obtain ⟨rfl, _, rfl⟩ := hx0
  have hne : ∀ b, (O b ∧ (F.a ts.length).ownBlock ≠ some b ∧ (F.k rows.length).ownBlock ≠ some b) ∨ w.heap.size ≤ b → (F.a ts.length).ownBlock ≠ some b ∧ (F.k rows.length).ownBlock ≠ some b := fun b hb => by
    rcases hb with hb | hb
    · exact hb.2
    · exact ⟨fun e => by have := (h.oA.lt b e).2; omega, fun e => by have := (h.oK.lt b e).2; omega⟩
  have hqn := hne q (hat.imp (hap q) id)
  have hgb : w'.heap[g]? = w.heap[g]? := hblk g (by omega) (fun e => by have := (hio.lt g e).1; omega) (fun e => by have := (h.oK.lt g e).1; omega)
  have hlow : ∀ b, b < g → w'.heap[b]? = w.heap[b]? := fun b hb => hblk b (by omega) (fun e => by have := (hio.lt b e).1; omega) (fun e => by have := (h.oK.lt b e).1; omega)
  have hother : ∀ (m : Nat) (z : Value), m ≠ i → F.ks[m]? = some z → z.ownBlock ≠ some q := fun m z hm hz e => by
    rcases hat with hat | hat
    · exact h.apart m i z _ q hm hz hx e hat
    · have hm' := (List.getElem?_eq_some_iff.1 hz).1
      obtain ⟨a', c', h0, h1', _⟩ := h.row m rows[m] (List.getElem?_eq_getElem (by omega))
      rw [hz] at h0
      obtain rfl := Option.some.inj h0
      have := (h1'.lt q e).2
      omega
  refine ⟨h.gD, by omega, (World.cell?_of_block hgb).trans h.cA, by rw [hl]; exact (World.cell?_of_block hgb).trans h.cK, (World.frozen?_of_block hgb).trans h.zA, (World.frozen?_of_block hgb).trans h.zK, own_block h.oA fun b hb => hblk b (h.oA.lt b hb).2 (fun e => (hap b e).2.1 hb) (fun e => h.AK b hb e), by rw [hl]; exact hownK, fun b hb => ?_, fun b hb => .inl (h.bA b hb), by rw [hl]; exact fun b hb => .inl (h.bK b hb), by rw [hl]; exact h.AK, fun m t ht => ?_, fun m r' hr' => ?_, fun m j x' y' b hmj hx' hy' h1 h2 => ?_⟩
  · rcases hb with hb | rfl
    · have := h.Ob b hb; omega
    · omega
  · obtain ⟨a', c', h0, h1, h2, h3⟩ := h.term m t ht
    exact ⟨a', c', h0, h1, h2, h3.same fun b _ hb' => hlow b hb'⟩
  · rw [hl]
    by_cases hm : m = i
    · subst hm
      rw [List.getElem?_set_self hi] at hr'
      obtain rfl := Option.some.inj hr'
      refine ⟨some ⟨q, 0, none⟩, cap, by rw [hrl]; exact List.getElem?_set_self (by omega), hown, fun b hb => ?_⟩
      have : b = q := by simpa [Value.ownBlock] using hb.symm
      subst this
      exact ⟨.inr rfl, hqn⟩
    · rw [List.getElem?_set_ne (fun e => hm e.symm)] at hr'
      obtain ⟨a', c', h0, h1, h2⟩ := h.row m r' hr'
      exact ⟨a', c', by rw [List.getElem?_set_ne (fun e => hm e.symm)]; exact h0, own_block h1 fun b hb => hblk b (h1.lt b hb).2 (fun e => h.apart m i _ _ b hm h0 hx hb e) (h2 b hb).2.2, fun b hb => ⟨.inl (h2 b hb).1, (h2 b hb).2⟩⟩
  · by_cases hm : m = i
    · subst hm
      rw [List.getElem?_set_self (by omega)] at hx'
      obtain rfl := Option.some.inj hx'
      rw [List.getElem?_set_ne hmj] at hy'
      have : b = q := by simpa [Value.ownBlock] using h1.symm
      subst this
      exact hother j y' (fun e => hmj e.symm) hy' h2
    · rw [List.getElem?_set_ne (fun e => hm e.symm)] at hx'
      by_cases hj : j = i
      · subst hj
        rw [List.getElem?_set_self (by omega)] at hy'
        obtain rfl := Option.some.inj hy'
        have : b = q := by simpa [Value.ownBlock] using h2.symm
        subst this
        exact hother m x' hm hx' h1
      · rw [List.getElem?_set_ne (fun e => hj e.symm)] at hy'
        exact h.apart m j x' y' b hmj hx' hy' h1 h2
end
end Go.Proofs.YtiinmlagcbjloaaGreat

/-! Mix2: Regions that draw their order and end in two stores, either of which may come first. No condition. -/
namespace Go.Proofs.YtiinmlagcbjloaaGreat

section
variable {P : Program} {ops : Array Oper} {Q : Exit → Act → World → Prop} {md : Region.Mode} {S : World → Prop} {late : List Nat}

/-- What reads no memory may be taken first, whatever has come up. -/
theorem wpAnyT_look {i : Nat} {oi : Oper} {v : Value} (hi : ops[i]? = some oi) (hsel : ∀ (j : Nat) (o : Oper) cs b, ops[j]? = some o → o.op ≠ .select cs b)
    (hQ : ∀ c a w, Q (.panic c) (a.put oi.dst v) w → Q (.panic c) a w) (hil : i ∉ late) :
    ∀ (fuel : Nat) (listed : Array Bool) (a : Act) (w : World),
      (∀ j oj, ops[j]? = some oj → j ≠ i → listed.getD j true = false → (∀ e ∈ oj.after, Region.binds md e = true → e.on ≠ i) → oi.apart ops oj = true) →
      i ∈ Region.ready md ops listed → YieldsIf P ops (fun _ => True) oi v a → ((∃ j ∈ late, listed.getD j false = true) ∨ S w) →
      wpAnyT P md ops Q S late fuel (listed.setIfInBounds i true) (a.put oi.dst v) w → wpAnyT P md ops Q S late (fuel + 1) listed a w := by
  have cur : ∀ (listed : Array Bool) (w : World), ((∃ j ∈ late, listed.getD j false = true) ∨ S w) → (∃ j ∈ late, (listed.setIfInBounds i true).getD j false = true) ∨ S w := fun listed w h => h.imp (fun ⟨k, hk, hl⟩ => ⟨k, hk, by
    have hne : i ≠ k := fun e => hil (by rw [e]; exact hk)
    rw [getD_set_ne false hne]; exact hl⟩) id
  intro fuel
  induction fuel with
  | zero =>
    intro listed a w _ hr hy hS H
    refine ⟨fun h => (by rw [h] at hr; cases hr), fun j hj => ?_⟩
    by_cases hji : j = i
    · subst hji; exact hy.wpOp hi trivial ⟨cur _ _ hS, H⟩
    · have := ready_mono hj hji
      rw [H.1] at this
      cases this
  | succ fuel ih =>
    intro listed a w hfree hr hy hS H
    refine ⟨fun h => (by rw [h] at hr; cases hr), fun j hj => ?_⟩
    by_cases hji : j = i
    · subst hji; exact hy.wpOp hi trivial ⟨cur _ _ hS, H⟩
    · have h1 := H.2 j (ready_mono hj hji)
      obtain ⟨hjun, oj, hoj, hall⟩ := mem_ready.1 hj
      have hiun := listed_no (mem_ready.1 hr).1
      have hnot : ∀ e ∈ oj.after, Region.binds md e = true → e.on ≠ i := fun e he hb heq => by
        have h1 := hall e he hb
        rw [heq, hiun] at h1
        cases h1
      have h2 := wpOp_putIf hoj (hfree j oj hoj hji hjun hnot) (fun cs b => hsel i oi cs b hi) (fun cs b => hsel j oj cs b hoj) hQ hy h1
      have hfree' : ∀ k ok, ops[k]? = some ok → k ≠ i → (listed.setIfInBounds j true).getD k true = false →
          (∀ e ∈ ok.after, Region.binds md e = true → e.on ≠ i) → oi.apart ops ok = true := fun k ok hk hki hun hno => by
        refine hfree k ok hk hki ?_ hno
        by_cases hjk : j = k
        · subst hjk; exact hjun
        · rw [getD_set_ne true hjk] at hun; exact hun
      refine wpOp_mono (fun a' w' h3 => ?_) h2
      have hS' : (∃ k ∈ late, (listed.setIfInBounds j true).getD k false = true) ∨ S w' := h3.2.1.imp (fun ⟨k, hk, hl⟩ => ⟨k, hk, by
        have hne2 : i ≠ k := fun e => hil (by rw [e]; exact hk)
        rw [Array.setIfInBounds_comm _ _ (Ne.symm hji), getD_set_ne false hne2] at hl
        exact hl⟩) id
      refine ⟨hS', ih (listed.setIfInBounds j true) a' w' hfree' (ready_mono hr (Ne.symm hji)) h3.1 hS' ?_⟩
      rw [Array.setIfInBounds_comm _ _ hji]
      exact h3.2.2

/-- A step of the walk: an operation that only looks (0), one behind which S is shown anew (1), one that reads no memory (2); in the end the two last ones, in either order. -/
def wpMixP (P : Program) (ops : Array Oper) (Q : Exit → Act → World → Prop) (S : World → Prop) (p q : Nat) : List (Nat × Nat) → Act → World → Prop
  | [], a, w => wpOp P ops Q p (fun a w => wpOp P ops Q q (fun a w => Q .normal a w) a w) a w ∧ wpOp P ops Q q (fun a w => wpOp P ops Q p (fun a w => Q .normal a w) a w) a w
  | (i, 0) :: rest, a, w => ∃ o v, ops[i]? = some o ∧ YieldsIf P ops S o v a ∧ wpMixP P ops Q S p q rest (a.put o.dst v) w
  | (i, 1) :: rest, a, w => wpOp P ops Q i (fun a' w' => S w' ∧ wpMixP P ops Q S p q rest a' w') a w
  | (i, _ + 2) :: rest, a, w => ∃ o v, ops[i]? = some o ∧ YieldsIf P ops (fun _ => True) o v a ∧ wpMixP P ops Q S p q rest (a.put o.dst v) w

def mixP (md : Region.Mode) (ops : Array Oper) (p q : Nat) : List (Nat × Nat) → Array Bool → Bool
  | [], listed => (Region.ready md ops listed == [p, q]) && (Region.ready md ops (listed.setIfInBounds p true) == [q]) && (Region.ready md ops (listed.setIfInBounds q true) == [p]) && (Region.ready md ops ((listed.setIfInBounds p true).setIfInBounds q true)).isEmpty &&
      (Region.ready md ops ((listed.setIfInBounds q true).setIfInBounds p true)).isEmpty && decide (p < listed.size) && decide (q < listed.size)
  | (i, 0) :: rest, listed => (Region.ready md ops listed).contains i && Region.free md ops listed i &&
      [p, q].all (fun j => match ops[j]? with | some oj => oj.after.any (fun e => Region.binds md e && e.on == i) | none => false) && [p, q].all (fun j => !(listed.getD j false)) && mixP md ops p q rest (listed.setIfInBounds i true)
  | (i, 1) :: rest, listed => (Region.ready md ops listed == [i]) && mixP md ops p q rest (listed.setIfInBounds i true)
  | (i, _ + 2) :: rest, listed => (Region.ready md ops listed).contains i && Region.free md ops listed i && !([p, q].contains i) && mixP md ops p q rest (listed.setIfInBounds i true)

theorem wpAnyT_mixP {p q : Nat} (hs : Region.noSelect ops = true) (hQ : ∀ c a w, ¬ Q (.panic c) a w) : ∀ (l : List (Nat × Nat)) (listed : Array Bool) (a : Act) (w : World), mixP md ops p q l listed = true → S w →
    wpMixP P ops Q S p q l a w → wpAnyT P md ops Q S [p, q] (l.length + 2) listed a w
  | [], listed, a, w, hB, hS, h => by
    simp only [mixP, Bool.and_eq_true, beq_iff_eq, decide_eq_true_eq, List.isEmpty_iff] at hB
    obtain ⟨⟨⟨⟨⟨⟨h1, h2⟩, h3⟩, h4⟩, h5⟩, h6⟩, h7⟩ := hB
    have lp : ∀ (l' : Array Bool) (r : Nat), r < l'.size → (l'.setIfInBounds r true).getD r false = true := fun l' r hr => by simp [hr]
    refine ⟨fun h0 => (by rw [h1] at h0; cases h0), fun j hj => ?_⟩
    rw [h1] at hj
    simp only [List.mem_cons, List.not_mem_nil, or_false] at hj
    rcases hj with rfl | rfl
    · refine wpOp_mono (fun a' w' h' => ⟨.inl ⟨j, by simp, lp _ _ h6⟩, ⟨fun h0 => (by rw [h2] at h0; cases h0), fun k hk => ?_⟩⟩) h.1
      rw [h2] at hk
      simp only [List.mem_singleton] at hk
      subst hk
      exact wpOp_mono (fun a' w' h' => ⟨.inl ⟨k, by simp, lp _ _ (by simpa using h7)⟩, ⟨h4, h'⟩⟩) h'
    · refine wpOp_mono (fun a' w' h' => ⟨.inl ⟨j, by simp, lp _ _ h7⟩, ⟨fun h0 => (by rw [h3] at h0; cases h0), fun k hk => ?_⟩⟩) h.2
      rw [h3] at hk
      simp only [List.mem_singleton] at hk
      subst hk
      exact wpOp_mono (fun a' w' h' => ⟨.inl ⟨k, by simp, lp _ _ (by simpa using h6)⟩, ⟨h5, h'⟩⟩) h'
  | (i, 0) :: rest, listed, a, w, hB, hS, ⟨o, v, ho, hy, h⟩ => by
    simp only [mixP, Bool.and_eq_true] at hB
    obtain ⟨⟨⟨⟨h2, h3⟩, h4⟩, h5⟩, h6⟩ := hB
    refine wpAnyT_first ho (Region.noSelect_spec hs) (fun c a w h => absurd h (hQ c _ w)) (fun j hj => ?_) (rest.length + 2) listed a w (Region.free_spec ho h3) (by simpa using h2) hy hS (fun j hj => ?_) (wpAnyT_mixP hs hQ rest _ _ w h6 hS h)
    · have := List.all_eq_true.1 h4 j hj
      split at this
      · rename_i oj hoj
        obtain ⟨e, he, hb⟩ := Array.any_eq_true'.1 this
        simp only [Bool.and_eq_true, beq_iff_eq] at hb
        exact ⟨oj, hoj, e, he, hb⟩
      · cases this
    · have := List.all_eq_true.1 h5 j hj
      simpa using this
  | (i, 1) :: rest, listed, a, w, hB, hS, h => by
    simp only [mixP, Bool.and_eq_true, beq_iff_eq] at hB
    refine ⟨fun h0 => (by rw [hB.1] at h0; cases h0), fun j hj => ?_⟩
    rw [hB.1] at hj
    simp only [List.mem_singleton] at hj
    subst hj
    exact wpOp_mono (fun a' w' h' => ⟨.inr h'.1, wpAnyT_mixP hs hQ rest _ a' w' hB.2 h'.1 h'.2⟩) h
  | (i, _ + 2) :: rest, listed, a, w, hB, hS, ⟨o, v, ho, hy, h⟩ => by
    simp only [mixP, Bool.and_eq_true] at hB
    obtain ⟨⟨⟨h2, h3⟩, h4⟩, h6⟩ := hB
    exact wpAnyT_look ho (Region.noSelect_spec hs) (fun c a w h => absurd h (hQ c _ w)) (by simpa using h4) (rest.length + 2) listed a w (Region.free_spec ho h3) (by simpa using h2) hy (.inr hS) (wpAnyT_mixP hs hQ rest _ _ w h6 hS h)

/-- The region, walked in one order but for its two last stores. -/
theorem wp_region_mixP {id : Nat} {a : Act} {w : World} (S : World → Prop) (p q : Nat) (l : List (Nat × Nat)) (hm : P.follows .mixedOrders = true) (hB : (Region.noSelect ops && (l.length + 2 == ops.size) && mixP .any ops p q l (Array.replicate ops.size false)) = true)
    (hS : S w.drew) (h : wpMixP P ops (QN Q) S p q l a w.drew) : (Code.region id ops true).wp P Q a w := by
  simp only [Bool.and_eq_true, beq_iff_eq] at hB
  obtain ⟨⟨h1, h2⟩, h3⟩ := hB
  refine Code.wp_mono (Q := QN Q) (fun e a w h => by cases e <;> first | exact h | exact h.elim) ?_
  refine wp_region_any hm (wpAny_of_T (S := S) (late := [p, q]) _ _ _ _ ?_)
  rw [← h2]
  exact wpAnyT_mixP h1 (fun c a w h => h) l _ a _ (by rw [h2]; exact h3) hS h

theorem mixp_see {p q i : Nat} {rest : List (Nat × Nat)} {a : Act} {w : World} {o : Oper} (ho : ops[i]? = some o)
    (h : ∀ K : Act → Prop, (∀ a', wpMixP P ops Q S p q rest a' w → K a') → if Region.wanted o (yielded ops a.tmps) = true then ∃ v, (∀ w, S w → (execOp a.eval o).run P w = .ok (.value v) w) ∧ K (a.put o.dst v) else K (a.put o.dst undef)) : wpMixP P ops Q S p q ((i, 0) :: rest) a w := by
  have := h (fun a' => wpMixP P ops Q S p q rest a' w) (fun _ h => h)
  split at this
  · rename_i hw
    obtain ⟨v, h1, h2⟩ := this
    exact ⟨o, v, ho, .inl ⟨hw, h1⟩, h2⟩
  · rename_i hw
    exact ⟨o, undef, ho, .inr ⟨by simpa using hw, rfl⟩, this⟩
theorem mixp_any {p q i : Nat} {rest : List (Nat × Nat)} {a : Act} {w : World} {o : Oper} (ho : ops[i]? = some o)
    (h : ∀ K : Act → Prop, (∀ a', wpMixP P ops Q S p q rest a' w → K a') → if Region.wanted o (yielded ops a.tmps) = true then ∃ v, (∀ w, True → (execOp a.eval o).run P w = .ok (.value v) w) ∧ K (a.put o.dst v) else K (a.put o.dst undef)) : wpMixP P ops Q S p q ((i, 2) :: rest) a w := by
  have := h (fun a' => wpMixP P ops Q S p q rest a' w) (fun _ h => h)
  split at this
  · rename_i hw
    obtain ⟨v, h1, h2⟩ := this
    exact ⟨o, v, ho, .inl ⟨hw, h1⟩, h2⟩
  · rename_i hw
    exact ⟨o, undef, ho, .inr ⟨by simpa using hw, rfl⟩, this⟩
theorem mixp_hold {p q i : Nat} {rest : List (Nat × Nat)} {a : Act} {w : World} {o : Oper} (ho : ops[i]? = some o)
    (h : ∀ K : Act → World → Prop, (∀ a' w', S w' → wpMixP P ops Q S p q rest a' w' → K a' w') → if Region.wanted o (yielded ops a.tmps) = true then o.wp P a w K Q else K (a.put o.dst undef) w) : wpMixP P ops Q S p q ((i, 1) :: rest) a w := by
  have := h (fun a' w' => S w' ∧ wpMixP P ops Q S p q rest a' w') (fun _ _ h1 h2 => ⟨h1, h2⟩)
  show wpOp P ops Q i _ a w
  unfold wpOp
  simp only [ho]
  split at this
  · rename_i hw; rw [if_pos hw]; exact .inl this
  · rename_i hw; rw [if_neg hw]; exact this
/-- One of the two last ones. -/
theorem mixp_op {i : Nat} {a : Act} {w : World} {o : Oper} {R : Act → World → Prop} (ho : ops[i]? = some o)
    (h : ∀ K : Act → World → Prop, (∀ a' w', R a' w' → K a' w') → if Region.wanted o (yielded ops a.tmps) = true then o.wp P a w K Q else K (a.put o.dst undef) w) : wpOp P ops Q i R a w := by
  have := h R (fun _ _ h => h)
  unfold wpOp
  simp only [ho]
  split at this
  · rename_i hw; rw [if_pos hw]; exact .inl this
  · rename_i hw; rw [if_neg hw]; exact this
theorem mixp_end {p q : Nat} {a : Act} {w : World} (h1 : wpOp P ops (QN Q) p (fun a w => wpOp P ops (QN Q) q (fun a w => Q .normal a w) a w) a w) (h2 : wpOp P ops (QN Q) q (fun a w => wpOp P ops (QN Q) p (fun a w => Q .normal a w) a w) a w) : wpMixP P ops (QN Q) S p q [] a w := ⟨h1, h2⟩
end
end Go.Proofs.YtiinmlagcbjloaaGreat

/-! G4r: Where a number first stands. -/
namespace Go.Proofs.YtiinmlagcbjloaaGreat
open Go.RowKit Go.Deep

/-- No number ahead of place j is x. -/
def NotTo (xs : List Int) (x : Int) (j : Nat) : Prop := ∀ q y, q < j → xs[q]? = some y → y ≠ x
theorem idx_hit {xs : List Int} {x : Int} : ∀ {j : Nat}, NotTo xs x j → xs[j]? = some x → xs.idxOf x = j := by
  induction xs with
  | nil => intro j _ h; simp at h
  | cons y r ih =>
    intro j hn h
    cases j with
    | zero =>
      simp at h
      subst h
      simp
    | succ j =>
      have hy : y ≠ x := hn 0 y (by omega) rfl
      have := ih (j := j) (fun q z hq hz => hn (q + 1) z (by omega) (by simpa using hz)) (by simpa using h)
      rw [List.idxOf_cons, show (y == x) = false from beq_eq_false_iff_ne.2 hy]
      simp [this]
end Go.Proofs.YtiinmlagcbjloaaGreat
