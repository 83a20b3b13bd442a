/- Several texts in one: DL. -/
import Derived.Test.YtdkcbbhkoibplaaKLm25
import Derived.Test.YtdkcbbhkoibplaaKLm31
import Derived.Test.YtdkcbbhkoibplaaKLm26

/-! DL: DrawLinkDo: equations, a term and a link, drawn. -/
namespace Go.Proofs.Ytdkcbbhkoibplaa
open Go.RowKit Go.Deep

/-- A row of binds without its first. -/
theorem cutB_one {B : Option Addr} {D : Nat} {bs : List Bd} (hn : 0 < bs.length) (hc : bs.length ≤ D) : ∃ B', (∀ w : World, (Instr.slice 41 (.slice B bs.length D) (some (.int .i64 1)) none none).run Try.prog w = .ok (.slice B' (bs.length - 1) (D - 1)) w) ∧
    ∀ {w : World} {lo hi : Nat}, BSl w lo hi B bs → BSl w lo hi B' (bs.drop 1) := by
  obtain ⟨ti, hti, htz, hts, htb⟩ := Try.infoBind
  have hsz : ∀ w : World, (sizeOf (Try.prog.elem 41)).run Try.prog w = .ok 4 w := fun w => by
    have he : Try.prog.elem 41 = 131 := by kernel_rfl
    rw [he]
    simp [sizeOf, typeInfo, hti, hts]
  have hel : Try.prog.underlying 41 = some (.slice (Try.prog.elem 41)) := by kernel_rfl
  have hrun : ∀ w : World, (Instr.slice 41 (.slice B bs.length D) (some (.int .i64 1)) none none).run Try.prog w = .ok (sliced B 1 bs.length D 4) w := fun w => by
    rw [run_slice_l (P := Try.prog) w 41 B bs.length D hel .i64 1 (by omega) (by omega), hsz]
    simp [Result.andThen]
  refine ⟨if D = 1 then B else B.map (·.add (1 * 4)), fun w => by rw [hrun w]; rfl, fun {w lo hi} h => ?_⟩
  split
  · exact .inl (List.drop_eq_nil_of_le (by omega))
  · rcases h with rfl | ⟨b, o, rfl, h1, h2, h3⟩
    · exact .inl (by simp)
    · refine .inr ⟨b, o + 4, ?_, h1, h2, fun j x hx => ?_⟩
      · have ha : (⟨b, o, none⟩ : Addr).add 4 = ⟨b, o + 4, none⟩ := by unfold Addr.add; split <;> simp_all
        simp only [Option.map_some, Nat.one_mul, ha]
      · rw [List.getElem?_drop] at hx
        have h4 := h3 (1 + j) x hx
        rw [show o + (1 + j) * 4 = o + 4 + j * 4 from by omega] at h4
        exact h4

theorem isc_own {w : World} {base : Nat} {A : Option Addr} {C : Nat} {xs : List Int} (h : w.ownsRow base 3 1 (.slice A xs.length C) xs.length (xs.map (Value.int .i64))) : ISc w base w.heap.size A C xs := by
  refine ⟨isl_of_own h, ?_⟩
  rcases h.2 with ⟨_, h0⟩ | ⟨g, cap, cur, hv, _, _, h1, _⟩
  · omega
  · simp only [Value.slice.injEq] at hv
    omega
def DlPost (w : World) (e : Ending) (w' : World) : Prop :=
  ∃ es A C s v a c k eq back pA pC place B D bs, e = .returned (.tuple #[.slice A (List.length es) C, .agg #[.int .i64 s, .int .i64 v, .slice a (flen k) c], .agg #[.int .i64 eq, .bool back, .slice pA (List.length place) pC, .slice B (List.length bs) D]]) ∧ es.length ≤ 3 ∧ OkZ s v k ∧ 1 + fsz k ≤ 15 ∧ place.length ≤ 1001 ∧ bs.length ≤ 1000 ∧ Below w.heap.size w w' ∧ ESl w' 0 w'.heap.size A es ∧ Sl w' 0 w'.heap.size a k ∧ ISc w' 0 w'.heap.size pA pC place ∧ BSl w' 0 w'.heap.size B bs

/-- In the midst of the draw. -/
structure Dk (w : World) (br bt bl p : Nat) (es : List Eqd) (A : Option Addr) (s v : Int) (a : Option Addr) (c : Nat) (k : Fo) (eq : Int) (back : Bool) (pA : Option Addr) (pC : Nat) (place : List Int) (B : Option Addr) (D : Nat) (bs : List Bd) (u : World) : Prop where
  brE : br = w.heap.size + 2
  rd : Rd u br p
  low : Below (w.heap.size + 2) ((w.alloc (.cells #[.int .i64 0, .int .i64 0, .slice none 0 0] 35)).alloc (.cells #[.int .i64 0, .bool false, .slice none 0 0, .slice none 0 0] 43)) u
  he : ESl u (br + 1) bt A es
  hl : Sl u (br + 1) bt a k
  hbt : br < bt
  hbl : bt < bl
  hsz : bl < u.heap.size
  hp : ISc u (bt + 1) bl pA pC place
  hb : BSc u (bt + 1) bl B D bs
  t0 : u.cell? ⟨bt, 0, none⟩ = some (.int .i64 s)
  t1 : u.cell? ⟨bt, 1, none⟩ = some (.int .i64 v)
  t2 : u.cell? ⟨bt, 2, none⟩ = some (.slice a (flen k) c)
  l0 : u.cell? ⟨bl, 0, none⟩ = some (.int .i64 eq)
  l1 : u.cell? ⟨bl, 1, none⟩ = some (.bool back)
  l2 : u.cell? ⟨bl, 2, none⟩ = some (.slice pA place.length pC)
  l3 : u.cell? ⟨bl, 3, none⟩ = some (.slice B bs.length D)
  fr : ∀ i, u.frozen? ⟨bl, i, none⟩ = false
theorem Dk.adv {w : World} {br bt bl p p' : Nat} {es : List Eqd} {A : Option Addr} {s v : Int} {a : Option Addr} {c : Nat} {k : Fo} {eq : Int} {back : Bool} {pA : Option Addr} {pC : Nat} {place : List Int} {B : Option Addr} {D : Nat} {bs : List Bd} {u u' : World} (h : Dk w br bt bl p es A s v a c k eq back pA pC place B D bs u) (ha : Adv u br p' u') : Dk w br bt bl p' es A s v a c k eq back pA pC place B D bs u' := by
  have h1 := h.hbt
  have h2 := h.hbl
  have h3 := h.hsz
  have hs := ha.size
  have hc : ∀ {b i : Nat} {x : Value}, br < b → u.cell? ⟨b, i, none⟩ = some x → u'.cell? ⟨b, i, none⟩ = some x := fun hb hx => ha.cell hx (by dsimp only; omega)
  have hsl := h.low.size
  simp at hsl
  exact ⟨h.brE, ha.rd h.rd, adv_low h.low (by have := h.brE; omega) (by omega) ha, h.he.same (ha.same (by omega) (.inl (by omega))), h.hl.same (ha.same (by omega) (.inl (by omega))), h1, h2, by omega, h.hp.same (ha.same (by omega) (.inl (by omega))), h.hb.same (ha.same (by omega) (.inl (by omega))),
    hc (by omega) h.t0, hc (by omega) h.t1, hc (by omega) h.t2, hc (by omega) h.l0, hc (by omega) h.l1, hc (by omega) h.l2, hc (by omega) h.l3, fun i => (ha.frozen (by dsimp only; omega)).trans (h.fr i)⟩
theorem Dk.start {w w3 w4 : World} {br p3 p4 : Nat} {es : List Eqd} {A : Option Addr} {s v : Int} {a : Option Addr} {c : Nat} {k : Fo} {eq : Int} {back : Bool} {pA : Option Addr} {pC : Nat} {place : List Int} {B : Option Addr} {D : Nat} {bs : List Bd} (hbr : br = w.heap.size + 2) (hr : Rd w3 br p3) (hlow : Below (w.heap.size + 2) ((w.alloc (.cells #[.int .i64 0, .int .i64 0, .slice none 0 0] 35)).alloc (.cells #[.int .i64 0, .bool false, .slice none 0 0, .slice none 0 0] 43)) w3) (he : ESl w3 (br + 1) w3.heap.size A es) (hl : Sl w3 (br + 1) w3.heap.size a k)
    (ha : Adv (w3.alloc (.cells #[.int .i64 s, .int .i64 v, .slice a (flen k) c] 35)) br p4 w4) (hp : ISc w4 (w3.heap.size + 1) w4.heap.size pA pC place) (hb : BSc w4 (w3.heap.size + 1) w4.heap.size B D bs) :
    Dk w br w3.heap.size w4.heap.size p4 es A s v a c k eq back pA pC place B D bs (w4.alloc (.cells #[.int .i64 eq, .bool back, .slice pA place.length pC, .slice B bs.length D] 43)) := by
  have hlt := hr.lt
  have hs := ha.size
  simp at hs
  have hsl := hlow.size
  simp at hsl
  have hx := box_low w4 (.cells #[.int .i64 eq, .bool back, .slice pA place.length pC, .slice B bs.length D] 43)
  have hbx := box_low w3 (.cells #[.int .i64 s, .int .i64 v, .slice a (flen k) c] 35)
  have a0 : ∀ i, (w3.alloc (.cells #[.int .i64 s, .int .i64 v, .slice a (flen k) c] 35)).cell? ⟨w3.heap.size, i, none⟩ = #[Value.int .i64 s, .int .i64 v, .slice a (flen k) c][i]? := fun i => by rw [World.cell?_alloc_at _ _ _ _ (by simp)]
  have a1 : ∀ i, (w4.alloc (.cells #[.int .i64 eq, .bool back, .slice pA place.length pC, .slice B bs.length D] 43)).cell? ⟨w4.heap.size, i, none⟩ = #[Value.int .i64 eq, .bool back, .slice pA place.length pC, .slice B bs.length D][i]? := fun i => by rw [World.cell?_alloc_at _ _ _ _ (by simp)]
  have ht : ∀ i x, #[Value.int .i64 s, .int .i64 v, .slice a (flen k) c][i]? = some x → (w4.alloc (.cells #[.int .i64 eq, .bool back, .slice pA place.length pC, .slice B bs.length D] 43)).cell? ⟨w3.heap.size, i, none⟩ = some x := fun i x hx1 =>
    cell_low hx (ha.cell ((a0 i).trans hx1) (by dsimp only; omega))
  have hs3 : Same (br + 1) w3.heap.size w3 (w4.alloc (.cells #[.int .i64 eq, .bool back, .slice pA place.length pC, .slice B bs.length D] 43)) := fun b h1 h2 =>
    (hx.block b (by omega)).trans ((ha.same (lo := br + 1) (B := w3.heap.size) (by simp) (.inl (by omega)) b h1 h2).trans (hbx.block b h2))
  exact ⟨hbr, (ha.rd (hr.alloc _)).alloc _, (adv_low (hlow.alloc (by omega) _) (by omega) (by simp; omega) ha).alloc (by omega) _, he.same hs3, hl.same hs3, by omega, by omega, by simp, hp.same (Same.of_below hx), hb.same (Same.of_below hx), ht 0 _ rfl, ht 1 _ rfl, ht 2 _ rfl, a1 0, a1 1, a1 2, a1 3, fun i => by rw [World.frozen?_alloc_at _ _ _ _ (by simp)]⟩
def set7 (u : World) (n : Nat) (x y z x' y' z' r' : Value) : World := ((((((u.setCell ⟨n, 0, none⟩ x).setCell ⟨n, 1, none⟩ y).setCell ⟨n, 2, none⟩ z).setCell ⟨n + 1, 0, none⟩ x').setCell ⟨n + 1, 1, none⟩ y').setCell ⟨n + 1, 2, none⟩ z').setCell ⟨n + 1, 3, none⟩ r'
theorem dl_end {w u : World} {es : List Eqd} {A : Option Addr} {s v : Int} {a : Option Addr} {c : Nat} {k : Fo} {eq : Int} {back : Bool} {pA : Option Addr} {pC : Nat} {place : List Int} {B : Option Addr} {D : Nat} {bs : List Bd} {C : Nat} (hlow : Below (w.heap.size + 2) ((w.alloc (.cells #[.int .i64 0, .int .i64 0, .slice none 0 0] 35)).alloc (.cells #[.int .i64 0, .bool false, .slice none 0 0, .slice none 0 0] 43)) u) (hel : es.length ≤ 3) (hok : OkZ s v k) (hz : 1 + fsz k ≤ 15) (hpl : place.length ≤ 1001) (hbl : bs.length ≤ 1000) (he : ESl u (w.heap.size + 2) u.heap.size A es) (hl : Sl u (w.heap.size + 2) u.heap.size a k) (hp : ISc u (w.heap.size + 2) u.heap.size pA pC place) (hb : BSl u (w.heap.size + 2) u.heap.size B bs) (x y z x' y' z' r' : Value) :
    DlPost w (.returned (.tuple #[.slice A es.length C, .agg #[.int .i64 s, .int .i64 v, .slice a (flen k) c], .agg #[.int .i64 eq, .bool back, .slice pA place.length pC, .slice B bs.length D]])) (set7 u w.heap.size x y z x' y' z' r').drew := by
  have h0 : Same (w.heap.size + 2) u.heap.size u (set7 u w.heap.size x y z x' y' z' r') := by
    unfold set7
    iterate 7 refine Same.setCell ?_ (.inl (by dsimp only; omega)) _
    exact fun _ _ _ => rfl
  have hb' : Below w.heap.size w u := (((Below.refl _ _).alloc (Nat.le_refl _) (.cells #[.int .i64 0, .int .i64 0, .slice none 0 0] 35)).alloc (by simp) (.cells #[.int .i64 0, .bool false, .slice none 0 0, .slice none 0 0] 43)).trans (hlow.mono (by omega))
  have hsz : (set7 u w.heap.size x y z x' y' z' r').heap.size = u.heap.size := by simp [set7]
  have hb2 : Below w.heap.size w (set7 u w.heap.size x y z x' y' z' r') := by
    unfold set7
    exact ((((((hb'.setCell (Nat.le_refl _) _).setCell (Nat.le_refl _) _).setCell (Nat.le_refl _) _).setCell (by simp) _).setCell (by simp) _).setCell (by simp) _).setCell (by simp) _
  generalize set7 u w.heap.size x y z x' y' z' r' = X at h0 hsz hb2 ⊢
  have hd : Below X.heap.size X X.drew := (Below.refl _ _).drew
  have hs : Same (w.heap.size + 2) u.heap.size u X.drew := fun b h1 h2 => (hd.block b (by omega)).trans (h0 b h1 h2)
  have hle : u.heap.size ≤ X.drew.heap.size := by have := hd.size; omega
  exact ⟨es, A, C, s, v, a, c, k, eq, back, pA, pC, place, B, D, bs, rfl, hel, hok, hz, hpl, hbl, hb2.drew, (he.same hs).mono (Nat.zero_le _) hle, (hl.same hs).mono (Nat.zero_le _) hle, (hp.same hs).mono (Nat.zero_le _) hle, (hb.same hs).mono (Nat.zero_le _) hle⟩
def cl7 (b : Nat) (x y z : Value) (b' : Nat) (x' y' z' r' : Value) : List (Addr × Value) := [(⟨b, 0, none⟩, x), (⟨b, 1, none⟩, y), (⟨b, 2, none⟩, z), (⟨b', 0, none⟩, x'), (⟨b', 1, none⟩, y'), (⟨b', 2, none⟩, z'), (⟨b', 3, none⟩, r')]
theorem cl7_at {w : World} {b : Nat} {x y z : Value} {b' : Nat} {x' y' z' r' : Value} (h0 : w.cell? ⟨b, 0, none⟩ = some x) (h1 : w.cell? ⟨b, 1, none⟩ = some y) (h2 : w.cell? ⟨b, 2, none⟩ = some z) (h3 : w.cell? ⟨b', 0, none⟩ = some x') (h4 : w.cell? ⟨b', 1, none⟩ = some y') (h5 : w.cell? ⟨b', 2, none⟩ = some z') (h6 : w.cell? ⟨b', 3, none⟩ = some r') :
    ∀ p, p ∈ cl7 b x y z b' x' y' z' r' → w.cell? p.1 = some p.2 := fun q hq => by
  simp only [cl7, List.mem_cons, List.not_mem_nil, or_false] at hq
  rcases hq with rfl | rfl | rfl | rfl | rfl | rfl | rfl
  · exact h0
  · exact h1
  · exact h2
  · exact h3
  · exact h4
  · exact h5
  · exact h6
theorem cl7_blk {b : Nat} {x y z : Value} {b' : Nat} {x' y' z' r' : Value} {n : Nat} (h : b ≠ n) (h' : b' ≠ n) : ∀ p, p ∈ cl7 b x y z b' x' y' z' r' → p.1.block ≠ n := fun q hq => by
  simp only [cl7, List.mem_cons, List.not_mem_nil, or_false] at hq
  rcases hq with rfl | rfl | rfl | rfl | rfl | rfl | rfl <;> assumption
theorem store4 {w : World} {l : List (Addr × Value)} (h : ∀ p, p ∈ l → w.cell? p.1 = some p.2) {n : Nat} (hn : ∀ p, p ∈ l → p.1.block ≠ n) (x y z r : Value) : ∀ p, p ∈ l → ((((w.setCell ⟨n, 0, none⟩ x).setCell ⟨n, 1, none⟩ y).setCell ⟨n, 2, none⟩ z).setCell ⟨n, 3, none⟩ r).cell? p.1 = some p.2 :=
  seen_set (seen_set (seen_set (seen_set h hn _ _) hn _ _) hn _ _) hn _ _
theorem ft_cells {w w' : World} {x y z x' y' z' r' : Value} {T T' : TypeId} (h : Below (w.heap.size + 2) ((w.alloc (.cells #[x, y, z] T)).alloc (.cells #[x', y', z', r'] T')) w') :
    w'.cell? ⟨w.heap.size, 0, none⟩ = some x ∧ w'.cell? ⟨w.heap.size, 1, none⟩ = some y ∧ w'.cell? ⟨w.heap.size, 2, none⟩ = some z ∧ w'.cell? ⟨w.heap.size + 1, 0, none⟩ = some x' ∧ w'.cell? ⟨w.heap.size + 1, 1, none⟩ = some y' ∧ w'.cell? ⟨w.heap.size + 1, 2, none⟩ = some z' ∧ w'.cell? ⟨w.heap.size + 1, 3, none⟩ = some r' := by
  have h1 : ∀ i, w'.cell? ⟨w.heap.size, i, none⟩ = #[x, y, z][i]? := fun i => by rw [h.cell (by simp), World.cell?_alloc_lt _ _ _ (by simp), World.cell?_alloc_at _ _ _ _ (by simp)]
  have h2 : ∀ i, w'.cell? ⟨w.heap.size + 1, i, none⟩ = #[x', y', z', r'][i]? := fun i => by rw [h.cell (by simp), World.cell?_alloc_at _ _ _ _ (by simp)]
  exact ⟨h1 0, h1 1, h1 2, h2 0, h2 1, h2 2, h2 3⟩

set_option maxRecDepth 100000 in
set_option maxHeartbeats 4000000 in
theorem DrawLinkDo_any (a0 : Option Addr) (len cap : Nat) (w : World) (hby : Bytes w a0 len) (hlen : len ≤ cap) :
    Calls Try.prog 28 #[.slice a0 len cap] w (DlPost w) := by
  have HBY := Lib.hid hby
  clear hby
  go_enter Try.func28, Try.ntmps28
  go_wp2_with fail
  with_reducible refine (l6Open_any a0 len cap _ ((HBY.out.alloc _).alloc _) hlen).mono ?_
  rintro e w1 ⟨rfl, hb1, hrd⟩
  have hs1 := hb1.size
  simp at hs1
  simp only [World.size_alloc] at hrd
  have HRD := Lib.hid hrd
  have HB1 : Hid (Below (w.heap.size + 2) ((w.alloc (.cells #[.int .i64 0, .int .i64 0, .slice none 0 0] 35)).alloc (.cells #[.int .i64 0, .bool false, .slice none 0 0, .slice none 0 0] 43)) w1) := hb1.mono (by simp)
  clear hb1 hrd
  simp only [World.size_alloc]
  obtain ⟨br, hbrE⟩ : ∃ br, w.heap.size + 1 + 1 = br := ⟨_, rfl⟩
  rw [hbrE]
  rw [hbrE] at HRD
  have HBR : Hid (br = w.heap.size + 2) := hbrE.symm
  clear hbrE
  have hlt1 := HRD.out.lt
  go_wp2_with fail
  have hany := l71Any_any 3 br 0 _ HRD.out (by omega) (by omega) (by omega)
  rw [show ((3 : Nat) : Int) = 3 from rfl] at hany
  with_reducible refine hany.mono ?_
  rintro e w2 ⟨es, A, C, p2, rfl, he1, hel, _, hp2, hp2', ha2, hes⟩
  clear hany
  have HLOW2 : Hid (Below (w.heap.size + 2) ((w.alloc (.cells #[.int .i64 0, .int .i64 0, .slice none 0 0] 35)).alloc (.cells #[.int .i64 0, .bool false, .slice none 0 0, .slice none 0 0] 43)) w2) := adv_low HB1.out (by have := HBR.out; omega) (by omega) ha2
  have HRD2 := Lib.hid (ha2.rd HRD.out)
  have HES2 : Hid (ESl w2 (br + 1) w2.heap.size A es) := hes.mono (by omega) (Nat.le_refl _)
  have hs2 := ha2.size
  clear ha2 hes HB1 HRD
  go_wp2_with fail
  have hpk : pkN 3 = 45 := rfl
  have hzk : szN 3 = 15 := rfl
  with_reducible refine (l71Term_ok 3 4 3 br p2 _ (by omega) (by omega) (by omega) (by omega) (by omega) HRD2.out (by omega)).mono ?_
  rintro e w3 ⟨s, v, a, c, k, p3, rfl, hok, hp3, hp3', hz, ha3, hl⟩
  rw [hpk] at hp3'
  rw [hzk] at hz
  have HOK := Lib.hid hok
  have HLOW3 : Hid (Below (w.heap.size + 2) ((w.alloc (.cells #[.int .i64 0, .int .i64 0, .slice none 0 0] 35)).alloc (.cells #[.int .i64 0, .bool false, .slice none 0 0, .slice none 0 0] 43)) w3) := adv_low HLOW2.out (by have := HBR.out; omega) (by omega) ha3
  have HRD3 := Lib.hid (ha3.rd HRD2.out)
  have hs3 := ha3.size
  have HES3 : Hid (ESl w3 (br + 1) w3.heap.size A es) := (HES2.out.same (ha3.same (Nat.le_refl _) (.inl (by omega)))).mono (Nat.le_refl _) hs3
  have HL3 : Hid (Sl w3 (br + 1) w3.heap.size a k) := hl.mono (by omega) (Nat.le_refl _)
  have HOK64 : Hid (okW s v k 64 = true) := (okW_iff _ _ _ _).2 ⟨hok.1, hok.2.1, by omega⟩
  have HRD3b := Lib.hid (HRD3.out.alloc (.cells #[.int .i64 s, .int .i64 v, .slice a (flen k) c] 35))
  have HES3b : Hid (ESl (w3.alloc (.cells #[.int .i64 s, .int .i64 v, .slice a (flen k) c] 35)) (br + 1) (w3.alloc (.cells #[.int .i64 s, .int .i64 v, .slice a (flen k) c] 35)).heap.size A es) := (HES3.out.same (Same.of_below (box_low _ _))).mono (Nat.le_refl _) (by simp)
  have HL3b : Hid (Sl (w3.alloc (.cells #[.int .i64 s, .int .i64 v, .slice a (flen k) c] 35)) (br + 1) (w3.alloc (.cells #[.int .i64 s, .int .i64 v, .slice a (flen k) c] 35)).heap.size a k) := (HL3.out.same (Same.of_below (box_low _ _))).mono (Nat.le_refl _) (by simp)
  clear ha3 hl hok HRD2 HES2 HLOW2 hpk hzk
  go_wp2_with fail
  with_reducible refine (l71Link_any br p3 es A C s v a c k _ HRD3b.out (by omega) HES3b.out (by omega) HL3b.out HOK64.out).mono ?_
  rintro e w4 ⟨eq, back, pA, pC, place, B, D, bs, t4, p4, rfl, hp4, hp4', ha4, hpi, hpl, hbi, hbl⟩
  have HDK : Hid (Dk w br w3.heap.size w4.heap.size p4 es A s v a c k eq back pA pC place B D bs (w4.alloc (.cells #[.int .i64 eq, .bool back, .slice pA place.length pC, .slice B bs.length D] 43))) :=
    Dk.start HBR.out HRD3.out HLOW3.out HES3.out HL3.out ha4 (hpi.mono (by simp) (Nat.le_refl _)) (hbi.mono (by simp) (Nat.le_refl _))
  have hs4 := ha4.size
  simp at hs4
  clear ha4 hpi hbi HRD3 HES3 HL3 HLOW3 HRD3b HES3b HL3b HOK64
  go_wp2_with fail
  generalize (w4.alloc (.cells #[.int .i64 eq, .bool back, .slice pA place.length pC, .slice B bs.length D] 43)) = w4b at *
  with_reducible refine (pick_any 16 br p4 _ HDK.out.rd (by omega) (by omega) (by omega)).mono ?_
  rintro e w5 ⟨y, rfl, hy, hb5⟩
  have HD := Lib.hid (HDK.out.adv (p' := p4 + 1) hb5)
  clear hb5 HDK
  by_cases y0 : y = 0
  · subst y0
    have l0 := HD.out.l0
    have l1 := HD.out.l1
    have l2 := HD.out.l2
    have l3 := HD.out.l3
    have fr0 := HD.out.fr 0
    have fr1 := HD.out.fr 1
    have fr2 := HD.out.fr 2
    have fr3 := HD.out.fr 3
    have hbrE := HBR.out
    have hd1 := HD.out.hbt
    have hd2 := HD.out.hbl
    have hd3 := HD.out.hsz
    have HLX : Hid (Below (w.heap.size + 2) ((w.alloc (.cells #[.int .i64 0, .int .i64 0, .slice none 0 0] 35)).alloc (.cells #[.int .i64 0, .bool false, .slice none 0 0, .slice none 0 0] 43)) (w5.setCell ⟨w4.heap.size, 1, none⟩ (.bool (!back)))) := HD.out.low.setCell (by dsimp only; omega) _
    have HEX : Hid (ESl (w5.setCell ⟨w4.heap.size, 1, none⟩ (.bool (!back))) (w.heap.size + 2) (w5.setCell ⟨w4.heap.size, 1, none⟩ (.bool (!back))).heap.size A es) := (HD.out.he.same (Same.setCell (fun _ _ _ => rfl) (.inr (by first | omega | (dsimp only; omega))) _)).mono (by omega) (by simp <;> omega)
    have HTX : Hid (Sl (w5.setCell ⟨w4.heap.size, 1, none⟩ (.bool (!back))) (w.heap.size + 2) (w5.setCell ⟨w4.heap.size, 1, none⟩ (.bool (!back))).heap.size a k) := (HD.out.hl.same (Same.setCell (fun _ _ _ => rfl) (.inr (by first | omega | (dsimp only; omega))) _)).mono (by omega) (by simp <;> omega)
    have HPX : Hid (ISc (w5.setCell ⟨w4.heap.size, 1, none⟩ (.bool (!back))) (w.heap.size + 2) (w5.setCell ⟨w4.heap.size, 1, none⟩ (.bool (!back))).heap.size pA pC place) := (HD.out.hp.same (Same.setCell (fun _ _ _ => rfl) (.inr (by first | omega | (dsimp only; omega))) _)).mono (by omega) (by simp <;> omega)
    have hbx : BSl (w5.setCell ⟨w4.heap.size, 1, none⟩ (.bool (!back))) (w3.heap.size + 1) w4.heap.size B bs := BSl.same (Same.setCell (fun _ _ _ => rfl) (.inr (by first | omega | (dsimp only; omega))) _) HD.out.hb.1
    have HBX : Hid (BSl (w5.setCell ⟨w4.heap.size, 1, none⟩ (.bool (!back))) (w.heap.size + 2) (w5.setCell ⟨w4.heap.size, 1, none⟩ (.bool (!back))).heap.size B bs) := hbx.mono (by omega) (by simp <;> omega)
    have HAT : Hid (∀ p, p ∈ (cl7 w3.heap.size (.int .i64 s) (.int .i64 v) (.slice a (flen k) c) w4.heap.size (.int .i64 eq) (.bool (!back)) (.slice pA place.length pC) (.slice B bs.length D)) → ((w5.setCell ⟨w4.heap.size, 1, none⟩ (.bool (!back)))).cell? p.1 = some p.2) := cl7_at (by rw [World.cell?_setCell_other _ _ _ _ (by intro e; simp only [Addr.mk.injEq] at e; omega)]; exact HD.out.t0) (by rw [World.cell?_setCell_other _ _ _ _ (by intro e; simp only [Addr.mk.injEq] at e; omega)]; exact HD.out.t1) (by rw [World.cell?_setCell_other _ _ _ _ (by intro e; simp only [Addr.mk.injEq] at e; omega)]; exact HD.out.t2) (by rw [World.cell?_setCell_other _ _ _ _ (by intro e; simp only [Addr.mk.injEq] at e; omega)]; exact HD.out.l0) (World.cell?_setCell_same _ _ _ HD.out.l1) (by rw [World.cell?_setCell_other _ _ _ _ (by intro e; simp only [Addr.mk.injEq] at e; omega)]; exact HD.out.l2) (by rw [World.cell?_setCell_other _ _ _ _ (by intro e; simp only [Addr.mk.injEq] at e; omega)]; exact HD.out.l3)
    have hd4 : w.heap.size + 2 < w3.heap.size := by omega
    clear hbrE
    go_wp2_with fail
    clear l0 l1 l2 l3 fr0 fr1 fr2 fr3
    clear HD hbx
    obtain ⟨hr0, hr1, hr2, hr3, hr4, hr5, hr6⟩ := ft_cells HLX.out
    obtain ⟨hf0, hf4⟩ := tb_freeS HLX.out 0 rfl rfl
    obtain ⟨hf1, hf5⟩ := tb_freeS HLX.out 1 rfl rfl
    obtain ⟨hf2, hf6⟩ := tb_freeS HLX.out 2 rfl rfl
    obtain ⟨_, hf7⟩ := tb_freeS HLX.out 3 rfl rfl
    have HN0 : Hid (∀ p, p ∈ (cl7 w3.heap.size (.int .i64 s) (.int .i64 v) (.slice a (flen k) c) w4.heap.size (.int .i64 eq) (.bool (!back)) (.slice pA place.length pC) (.slice B bs.length D)) → p.1.block ≠ w.heap.size) := cl7_blk (by omega) (by omega)
    have HN1 : Hid (∀ p, p ∈ (cl7 w3.heap.size (.int .i64 s) (.int .i64 v) (.slice a (flen k) c) w4.heap.size (.int .i64 eq) (.bool (!back)) (.slice pA place.length pC) (.slice B bs.length D)) → p.1.block ≠ w.heap.size + 1) := cl7_blk (by omega) (by omega)
    haveI : Nonempty (SeenD (cl7 w3.heap.size (.int .i64 s) (.int .i64 v) (.slice a (flen k) c) w4.heap.size (.int .i64 eq) (.bool (!back)) (.slice pA place.length pC) (.slice B bs.length D))) := ⟨⟨_, HAT.out⟩⟩
    have hu0 : ∀ u : SeenD (cl7 w3.heap.size (.int .i64 s) (.int .i64 v) (.slice a (flen k) c) w4.heap.size (.int .i64 eq) (.bool (!back)) (.slice pA place.length pC) (.slice B bs.length D)), u.world.cell? ⟨w3.heap.size, 0, none⟩ = some (.int .i64 s) := fun u => u.at_ (_, _) (by simp [cl7])
    have hu1 : ∀ u : SeenD (cl7 w3.heap.size (.int .i64 s) (.int .i64 v) (.slice a (flen k) c) w4.heap.size (.int .i64 eq) (.bool (!back)) (.slice pA place.length pC) (.slice B bs.length D)), u.world.cell? ⟨w3.heap.size, 1, none⟩ = some (.int .i64 v) := fun u => u.at_ (_, _) (by simp [cl7])
    have hu2 : ∀ u : SeenD (cl7 w3.heap.size (.int .i64 s) (.int .i64 v) (.slice a (flen k) c) w4.heap.size (.int .i64 eq) (.bool (!back)) (.slice pA place.length pC) (.slice B bs.length D)), u.world.cell? ⟨w3.heap.size, 2, none⟩ = some (.slice a (flen k) c) := fun u => u.at_ (_, _) (by simp [cl7])
    have hu3 : ∀ u : SeenD (cl7 w3.heap.size (.int .i64 s) (.int .i64 v) (.slice a (flen k) c) w4.heap.size (.int .i64 eq) (.bool (!back)) (.slice pA place.length pC) (.slice B bs.length D)), u.world.cell? ⟨w4.heap.size, 0, none⟩ = some (.int .i64 eq) := fun u => u.at_ (_, _) (by simp [cl7])
    have hu4 : ∀ u : SeenD (cl7 w3.heap.size (.int .i64 s) (.int .i64 v) (.slice a (flen k) c) w4.heap.size (.int .i64 eq) (.bool (!back)) (.slice pA place.length pC) (.slice B bs.length D)), u.world.cell? ⟨w4.heap.size, 1, none⟩ = some (.bool (!back)) := fun u => u.at_ (_, _) (by simp [cl7])
    have hu5 : ∀ u : SeenD (cl7 w3.heap.size (.int .i64 s) (.int .i64 v) (.slice a (flen k) c) w4.heap.size (.int .i64 eq) (.bool (!back)) (.slice pA place.length pC) (.slice B bs.length D)), u.world.cell? ⟨w4.heap.size, 2, none⟩ = some (.slice pA place.length pC) := fun u => u.at_ (_, _) (by simp [cl7])
    have hu6 : ∀ u : SeenD (cl7 w3.heap.size (.int .i64 s) (.int .i64 v) (.slice a (flen k) c) w4.heap.size (.int .i64 eq) (.bool (!back)) (.slice pA place.length pC) (.slice B bs.length D)), u.world.cell? ⟨w4.heap.size, 3, none⟩ = some (.slice B bs.length D) := fun u => u.at_ (_, _) (by simp [cl7])
    refine wp_region_mix (fun w' => ∃ u : SeenD (cl7 w3.heap.size (.int .i64 s) (.int .i64 v) (.slice a (flen k) c) w4.heap.size (.int .i64 eq) (.bool (!back)) (.slice pA place.length pC) (.slice B bs.length D)), w' = u.world) [] [(0, 0), (1, 0), (2, 0), (3, 0), (4, 1), (5, 1)] (by kernel_rfl) (by kernel_rfl) (seenD_drew HAT.out) ?_
    iterate 4
      refine mix_see rfl (fun K hK => ?_)
      go_simp
      refine hK _ ?_
      clear hK K
    clear hu0 hu1 hu2 hu3 hu4 hu5 hu6
    refine mix_hold rfl (fun K hK => ?_)
    go_simp
    refine hK _ _ (seenD_drew (storeD HAT.out HN0.out _ _ _)) ?_
    clear hK K
    refine mix_hold rfl (fun K hK => ?_)
    go_simp
    refine hK _ _ (seenD_drew (store4 (storeD HAT.out HN0.out _ _ _) HN1.out _ _ _ _)) ?_
    clear hK K
    refine mix_end ?_
    go_wp2_with fail
    refine bodyPost_ret (v := .tuple #[.slice A es.length C, .agg #[.int .i64 s, .int .i64 v, .slice a (flen k) c], .agg #[.int .i64 eq, .bool (!back), .slice pA place.length pC, .slice B bs.length D]]) ?_ rfl (dl_end HLX.out hel HOK.out (by omega) (by omega) (by omega) HEX.out HTX.out HPX.out HBX.out _ _ _ _ _ _ _)
    simp [results, Try.results28, go_sem, hr0, hr1, hr2, hr3, hr4, hr5, hr6]
  have d0 : ((y : Int) == 0) = false := by have h : (y : Int) ≠ 0 := by omega
                                           simpa using h
  by_cases y1 : y = 1
  · subst y1
    have l0 := HD.out.l0
    have l1 := HD.out.l1
    have l2 := HD.out.l2
    have l3 := HD.out.l3
    have fr0 := HD.out.fr 0
    have fr1 := HD.out.fr 1
    have fr2 := HD.out.fr 2
    have fr3 := HD.out.fr 3
    obtain ⟨ti, hti, htz, hts, htb⟩ := Try.infoI
    have HTI : Hid (Try.prog.info? 3 = some ti ∧ ti.zero = some (.int .i64 0) ∧ ti.size = 1 ∧ ti.bytes = 8) := ⟨hti, htz, hts, htb⟩
    clear hti htz hts htb
    have hbrE := HBR.out
    have hd1 := HD.out.hbt
    have hd2 := HD.out.hbl
    have hd3 := HD.out.hsz
    have hd4 : w.heap.size + 2 < w3.heap.size := by omega
    have hbrE0 := hbrE
    clear hbrE
    have hpi := HD.out.hp.1
    have HO1 : Hid ((w5.alloc (.cells #[] 3)).ownsRow w5.heap.size 3 1 (.slice (some ⟨w5.heap.size, 0, none⟩) 0 0) 0 []) := own_empty (heap_alloc_new _ _) (Nat.le_refl _)
    have HSRC : Hid (Src (w5.alloc (.cells #[] 3)) 1 pA place.length (place.map (Value.int .i64))) :=
      src_of_isl (hpi.same (Same.of_below ((box_low _ _).mono (by omega)))) (fun ha => by rw [ha] at hpi; exact isl_none hpi)
    have m2 := cell_low (box_low w5 (.cells #[] 3)) l2
    clear hpi
    have HRD5 := Lib.hid HD.out
    clear hbrE0
    go_wp2_with (at_builtin; first
      | (refine wpList_append_src _ rfl _ _ 26 rfl w5.heap.size 3 ti _ 1 8 Try.underlying26 HTI.out.1 HTI.out.2.1 HTI.out.2.2.1 HTI.out.2.2.2 rfl (by omega) (.slice (some ⟨w5.heap.size, 0, none⟩) 0 0) 0 [] rfl HO1.out pA place.length pC (place.map (Value.int .i64)) rfl HSRC.out (by simp [Value.oneCell']) (by unfold maxLen; omega) (by omega) (by simp) ?_; intro A1 C1 w6 hown1 hgrow1 hat1; have HLOW6 : Hid (Below w5.heap.size w5 w6) := ((Below.refl _ _).alloc (Nat.le_refl _) _).grown hgrow1 (by simp) (fun g hg => by simp [Value.ownBlock] at hg; omega); have hs56 : w5.heap.size ≤ w6.heap.size := HLOW6.out.size; have HO2 : Hid ((w6.alloc (.cells #[.int .i64 0] 3)).ownsRow w5.heap.size 3 1 (.slice A1 place.length C1) place.length (place.map (Value.int .i64))) := own_low (box_low _ _) (by simpa using hown1); clear hown1 hgrow1 hat1)
      | (refine wpList_append_src _ rfl _ _ 26 rfl w5.heap.size 3 ti _ 1 8 Try.underlying26 HTI.out.1 HTI.out.2.1 HTI.out.2.2.1 HTI.out.2.2.2 rfl (by omega) (.slice A1 place.length C1) place.length (place.map (Value.int .i64)) rfl HO2.out (some ⟨w6.heap.size, 0, none⟩) 1 1 [.int .i64 0] rfl ⟨rfl, .inr ⟨_, rfl, World.news_of_block (heap_alloc_new _ _)⟩⟩ (by simp [Value.oneCell']) (by unfold maxLen; omega) (by omega) (by simp; omega) ?_; intro A2 C2 w7 hown2 hgrow2 hat2; have HLOW7 : Hid (Below w5.heap.size w5 w7) := (HLOW6.out.alloc hs56 _).grown hgrow2 (by simp; omega) (fun q hq => (HO2.out.lt q hq).1); have HI7 : Hid (ISc w7 w5.heap.size w7.heap.size A2 C2 (place ++ [0])) := isc_own (by simpa using hown2); have HD7 := Lib.hid (HRD5.out.adv (Adv.start HRD5.out.rd HLOW7.out)); have m3 := HD7.out.l2; have fr3' := HD7.out.fr 2; clear hown2 hgrow2 hat2))
    clear l0 l1 l2 l3 fr0 fr1 fr2 fr3
    have hbrE := HBR.out
    have hd1 := HD7.out.hbt
    have hd2 := HD7.out.hbl
    have hd3 := HD7.out.hsz
    have HLX : Hid (Below (w.heap.size + 2) ((w.alloc (.cells #[.int .i64 0, .int .i64 0, .slice none 0 0] 35)).alloc (.cells #[.int .i64 0, .bool false, .slice none 0 0, .slice none 0 0] 43)) (w7.setCell ⟨w4.heap.size, 2, none⟩ (.slice A2 (place.length + 1) C2))) := HD7.out.low.setCell (by dsimp only; omega) _
    have HEX : Hid (ESl (w7.setCell ⟨w4.heap.size, 2, none⟩ (.slice A2 (place.length + 1) C2)) (w.heap.size + 2) (w7.setCell ⟨w4.heap.size, 2, none⟩ (.slice A2 (place.length + 1) C2)).heap.size A es) := (HD7.out.he.same (Same.setCell (fun _ _ _ => rfl) (.inr (by first | omega | (dsimp only; omega))) _)).mono (by omega) (by simp <;> omega)
    have HTX : Hid (Sl (w7.setCell ⟨w4.heap.size, 2, none⟩ (.slice A2 (place.length + 1) C2)) (w.heap.size + 2) (w7.setCell ⟨w4.heap.size, 2, none⟩ (.slice A2 (place.length + 1) C2)).heap.size a k) := (HD7.out.hl.same (Same.setCell (fun _ _ _ => rfl) (.inr (by first | omega | (dsimp only; omega))) _)).mono (by omega) (by simp <;> omega)
    have hw77 := HLOW7.out.size
    have HPX : Hid (ISc (w7.setCell ⟨w4.heap.size, 2, none⟩ (.slice A2 (place.length + 1) C2)) (w.heap.size + 2) (w7.setCell ⟨w4.heap.size, 2, none⟩ (.slice A2 (place.length + 1) C2)).heap.size A2 C2 (place ++ [0])) := (HI7.out.same (Same.setCell (fun _ _ _ => rfl) (.inl (by first | omega | (dsimp only; omega))) _)).mono (by omega) (by simp <;> omega)
    have hbx : BSl (w7.setCell ⟨w4.heap.size, 2, none⟩ (.slice A2 (place.length + 1) C2)) (w3.heap.size + 1) w4.heap.size B bs := BSl.same (Same.setCell (fun _ _ _ => rfl) (.inr (by first | omega | (dsimp only; omega))) _) HD7.out.hb.1
    have HBX : Hid (BSl (w7.setCell ⟨w4.heap.size, 2, none⟩ (.slice A2 (place.length + 1) C2)) (w.heap.size + 2) (w7.setCell ⟨w4.heap.size, 2, none⟩ (.slice A2 (place.length + 1) C2)).heap.size B bs) := hbx.mono (by omega) (by simp <;> omega)
    have HAT : Hid (∀ p, p ∈ (cl7 w3.heap.size (.int .i64 s) (.int .i64 v) (.slice a (flen k) c) w4.heap.size (.int .i64 eq) (.bool back) (.slice A2 (place.length + 1) C2) (.slice B bs.length D)) → ((w7.setCell ⟨w4.heap.size, 2, none⟩ (.slice A2 (place.length + 1) C2))).cell? p.1 = some p.2) := cl7_at (by rw [World.cell?_setCell_other _ _ _ _ (by intro e; simp only [Addr.mk.injEq] at e; omega)]; exact HD7.out.t0) (by rw [World.cell?_setCell_other _ _ _ _ (by intro e; simp only [Addr.mk.injEq] at e; omega)]; exact HD7.out.t1) (by rw [World.cell?_setCell_other _ _ _ _ (by intro e; simp only [Addr.mk.injEq] at e; omega)]; exact HD7.out.t2) (by rw [World.cell?_setCell_other _ _ _ _ (by intro e; simp only [Addr.mk.injEq] at e; omega)]; exact HD7.out.l0) (by rw [World.cell?_setCell_other _ _ _ _ (by intro e; simp only [Addr.mk.injEq] at e; omega)]; exact HD7.out.l1) (World.cell?_setCell_same _ _ _ HD7.out.l2) (by rw [World.cell?_setCell_other _ _ _ _ (by intro e; simp only [Addr.mk.injEq] at e; omega)]; exact HD7.out.l3)
    have hd4 : w.heap.size + 2 < w3.heap.size := by omega
    clear hbrE
    clear HD HD7 HRD5 hbx m2 m3 fr3'
    obtain ⟨hr0, hr1, hr2, hr3, hr4, hr5, hr6⟩ := ft_cells HLX.out
    obtain ⟨hf0, hf4⟩ := tb_freeS HLX.out 0 rfl rfl
    obtain ⟨hf1, hf5⟩ := tb_freeS HLX.out 1 rfl rfl
    obtain ⟨hf2, hf6⟩ := tb_freeS HLX.out 2 rfl rfl
    obtain ⟨_, hf7⟩ := tb_freeS HLX.out 3 rfl rfl
    have HN0 : Hid (∀ p, p ∈ (cl7 w3.heap.size (.int .i64 s) (.int .i64 v) (.slice a (flen k) c) w4.heap.size (.int .i64 eq) (.bool back) (.slice A2 (place.length + 1) C2) (.slice B bs.length D)) → p.1.block ≠ w.heap.size) := cl7_blk (by omega) (by omega)
    have HN1 : Hid (∀ p, p ∈ (cl7 w3.heap.size (.int .i64 s) (.int .i64 v) (.slice a (flen k) c) w4.heap.size (.int .i64 eq) (.bool back) (.slice A2 (place.length + 1) C2) (.slice B bs.length D)) → p.1.block ≠ w.heap.size + 1) := cl7_blk (by omega) (by omega)
    haveI : Nonempty (SeenD (cl7 w3.heap.size (.int .i64 s) (.int .i64 v) (.slice a (flen k) c) w4.heap.size (.int .i64 eq) (.bool back) (.slice A2 (place.length + 1) C2) (.slice B bs.length D))) := ⟨⟨_, HAT.out⟩⟩
    have hu0 : ∀ u : SeenD (cl7 w3.heap.size (.int .i64 s) (.int .i64 v) (.slice a (flen k) c) w4.heap.size (.int .i64 eq) (.bool back) (.slice A2 (place.length + 1) C2) (.slice B bs.length D)), u.world.cell? ⟨w3.heap.size, 0, none⟩ = some (.int .i64 s) := fun u => u.at_ (_, _) (by simp [cl7])
    have hu1 : ∀ u : SeenD (cl7 w3.heap.size (.int .i64 s) (.int .i64 v) (.slice a (flen k) c) w4.heap.size (.int .i64 eq) (.bool back) (.slice A2 (place.length + 1) C2) (.slice B bs.length D)), u.world.cell? ⟨w3.heap.size, 1, none⟩ = some (.int .i64 v) := fun u => u.at_ (_, _) (by simp [cl7])
    have hu2 : ∀ u : SeenD (cl7 w3.heap.size (.int .i64 s) (.int .i64 v) (.slice a (flen k) c) w4.heap.size (.int .i64 eq) (.bool back) (.slice A2 (place.length + 1) C2) (.slice B bs.length D)), u.world.cell? ⟨w3.heap.size, 2, none⟩ = some (.slice a (flen k) c) := fun u => u.at_ (_, _) (by simp [cl7])
    have hu3 : ∀ u : SeenD (cl7 w3.heap.size (.int .i64 s) (.int .i64 v) (.slice a (flen k) c) w4.heap.size (.int .i64 eq) (.bool back) (.slice A2 (place.length + 1) C2) (.slice B bs.length D)), u.world.cell? ⟨w4.heap.size, 0, none⟩ = some (.int .i64 eq) := fun u => u.at_ (_, _) (by simp [cl7])
    have hu4 : ∀ u : SeenD (cl7 w3.heap.size (.int .i64 s) (.int .i64 v) (.slice a (flen k) c) w4.heap.size (.int .i64 eq) (.bool back) (.slice A2 (place.length + 1) C2) (.slice B bs.length D)), u.world.cell? ⟨w4.heap.size, 1, none⟩ = some (.bool back) := fun u => u.at_ (_, _) (by simp [cl7])
    have hu5 : ∀ u : SeenD (cl7 w3.heap.size (.int .i64 s) (.int .i64 v) (.slice a (flen k) c) w4.heap.size (.int .i64 eq) (.bool back) (.slice A2 (place.length + 1) C2) (.slice B bs.length D)), u.world.cell? ⟨w4.heap.size, 2, none⟩ = some (.slice A2 (place.length + 1) C2) := fun u => u.at_ (_, _) (by simp [cl7])
    have hu6 : ∀ u : SeenD (cl7 w3.heap.size (.int .i64 s) (.int .i64 v) (.slice a (flen k) c) w4.heap.size (.int .i64 eq) (.bool back) (.slice A2 (place.length + 1) C2) (.slice B bs.length D)), u.world.cell? ⟨w4.heap.size, 3, none⟩ = some (.slice B bs.length D) := fun u => u.at_ (_, _) (by simp [cl7])
    refine wp_region_mix (fun w' => ∃ u : SeenD (cl7 w3.heap.size (.int .i64 s) (.int .i64 v) (.slice a (flen k) c) w4.heap.size (.int .i64 eq) (.bool back) (.slice A2 (place.length + 1) C2) (.slice B bs.length D)), w' = u.world) [] [(0, 0), (1, 0), (2, 0), (3, 0), (4, 1), (5, 1)] (by kernel_rfl) (by kernel_rfl) (seenD_drew HAT.out) ?_
    iterate 4
      refine mix_see rfl (fun K hK => ?_)
      go_simp
      refine hK _ ?_
      clear hK K
    clear hu0 hu1 hu2 hu3 hu4 hu5 hu6
    refine mix_hold rfl (fun K hK => ?_)
    go_simp
    refine hK _ _ (seenD_drew (storeD HAT.out HN0.out _ _ _)) ?_
    clear hK K
    refine mix_hold rfl (fun K hK => ?_)
    go_simp
    refine hK _ _ (seenD_drew (store4 (storeD HAT.out HN0.out _ _ _) HN1.out _ _ _ _)) ?_
    clear hK K
    refine mix_end ?_
    go_wp2_with fail
    have hend := dl_end (C := C) (c := c) (eq := eq) (back := back) (D := D) (pC := C2) (place := place ++ [0]) HLX.out hel HOK.out (by omega) (by simp; omega) (by omega) HEX.out HTX.out HPX.out HBX.out (.int .i64 s) (.int .i64 v) (.slice a (flen k) c) (.int .i64 eq) (.bool back) (.slice A2 (place.length + 1) C2) (.slice B bs.length D)
    rw [List.length_append, List.length_singleton] at hend
    refine bodyPost_ret (v := .tuple #[.slice A es.length C, .agg #[.int .i64 s, .int .i64 v, .slice a (flen k) c], .agg #[.int .i64 eq, .bool back, .slice A2 (place.length + 1) C2, .slice B bs.length D]]) ?_ rfl hend
    simp [results, Try.results28, go_sem, hr0, hr1, hr2, hr3, hr4, hr5, hr6]
  have d1 : ((y : Int) == 1) = false := by have h : (y : Int) ≠ 1 := by omega
                                           simpa using h
  by_cases y2 : y = 2
  · subst y2
    go_wp2_with fail
    with_reducible refine (pick_any 5 br (p4 + 1) _ HD.out.rd (by omega) (by omega) (by omega)).mono ?_
    rintro e w6 ⟨z, rfl, hz6, hb6⟩
    have HD6 := Lib.hid (HD.out.adv (p' := p4 + 1 + 1) hb6)
    clear hb6 HD
    have HD := HD6
    clear HD6
    have l0 := HD.out.l0
    have l1 := HD.out.l1
    have l2 := HD.out.l2
    have l3 := HD.out.l3
    have fr0 := HD.out.fr 0
    have fr1 := HD.out.fr 1
    have fr2 := HD.out.fr 2
    have fr3 := HD.out.fr 3
    have hbrE := HBR.out
    have hd1 := HD.out.hbt
    have hd2 := HD.out.hbl
    have hd3 := HD.out.hsz
    have HLX : Hid (Below (w.heap.size + 2) ((w.alloc (.cells #[.int .i64 0, .int .i64 0, .slice none 0 0] 35)).alloc (.cells #[.int .i64 0, .bool false, .slice none 0 0, .slice none 0 0] 43)) (w6.setCell ⟨w4.heap.size, 0, none⟩ (.int .i64 ((z : Int) - 1)))) := HD.out.low.setCell (by dsimp only; omega) _
    have HEX : Hid (ESl (w6.setCell ⟨w4.heap.size, 0, none⟩ (.int .i64 ((z : Int) - 1))) (w.heap.size + 2) (w6.setCell ⟨w4.heap.size, 0, none⟩ (.int .i64 ((z : Int) - 1))).heap.size A es) := (HD.out.he.same (Same.setCell (fun _ _ _ => rfl) (.inr (by first | omega | (dsimp only; omega))) _)).mono (by omega) (by simp <;> omega)
    have HTX : Hid (Sl (w6.setCell ⟨w4.heap.size, 0, none⟩ (.int .i64 ((z : Int) - 1))) (w.heap.size + 2) (w6.setCell ⟨w4.heap.size, 0, none⟩ (.int .i64 ((z : Int) - 1))).heap.size a k) := (HD.out.hl.same (Same.setCell (fun _ _ _ => rfl) (.inr (by first | omega | (dsimp only; omega))) _)).mono (by omega) (by simp <;> omega)
    have HPX : Hid (ISc (w6.setCell ⟨w4.heap.size, 0, none⟩ (.int .i64 ((z : Int) - 1))) (w.heap.size + 2) (w6.setCell ⟨w4.heap.size, 0, none⟩ (.int .i64 ((z : Int) - 1))).heap.size pA pC place) := (HD.out.hp.same (Same.setCell (fun _ _ _ => rfl) (.inr (by first | omega | (dsimp only; omega))) _)).mono (by omega) (by simp <;> omega)
    have hbx : BSl (w6.setCell ⟨w4.heap.size, 0, none⟩ (.int .i64 ((z : Int) - 1))) (w3.heap.size + 1) w4.heap.size B bs := BSl.same (Same.setCell (fun _ _ _ => rfl) (.inr (by first | omega | (dsimp only; omega))) _) HD.out.hb.1
    have HBX : Hid (BSl (w6.setCell ⟨w4.heap.size, 0, none⟩ (.int .i64 ((z : Int) - 1))) (w.heap.size + 2) (w6.setCell ⟨w4.heap.size, 0, none⟩ (.int .i64 ((z : Int) - 1))).heap.size B bs) := hbx.mono (by omega) (by simp <;> omega)
    have HAT : Hid (∀ p, p ∈ (cl7 w3.heap.size (.int .i64 s) (.int .i64 v) (.slice a (flen k) c) w4.heap.size (.int .i64 ((z : Int) - 1)) (.bool back) (.slice pA place.length pC) (.slice B bs.length D)) → ((w6.setCell ⟨w4.heap.size, 0, none⟩ (.int .i64 ((z : Int) - 1)))).cell? p.1 = some p.2) := cl7_at (by rw [World.cell?_setCell_other _ _ _ _ (by intro e; simp only [Addr.mk.injEq] at e; omega)]; exact HD.out.t0) (by rw [World.cell?_setCell_other _ _ _ _ (by intro e; simp only [Addr.mk.injEq] at e; omega)]; exact HD.out.t1) (by rw [World.cell?_setCell_other _ _ _ _ (by intro e; simp only [Addr.mk.injEq] at e; omega)]; exact HD.out.t2) (World.cell?_setCell_same _ _ _ HD.out.l0) (by rw [World.cell?_setCell_other _ _ _ _ (by intro e; simp only [Addr.mk.injEq] at e; omega)]; exact HD.out.l1) (by rw [World.cell?_setCell_other _ _ _ _ (by intro e; simp only [Addr.mk.injEq] at e; omega)]; exact HD.out.l2) (by rw [World.cell?_setCell_other _ _ _ _ (by intro e; simp only [Addr.mk.injEq] at e; omega)]; exact HD.out.l3)
    have hd4 : w.heap.size + 2 < w3.heap.size := by omega
    clear hbrE
    go_wp2_with fail
    clear l0 l1 l2 l3 fr0 fr1 fr2 fr3
    clear HD hbx
    obtain ⟨hr0, hr1, hr2, hr3, hr4, hr5, hr6⟩ := ft_cells HLX.out
    obtain ⟨hf0, hf4⟩ := tb_freeS HLX.out 0 rfl rfl
    obtain ⟨hf1, hf5⟩ := tb_freeS HLX.out 1 rfl rfl
    obtain ⟨hf2, hf6⟩ := tb_freeS HLX.out 2 rfl rfl
    obtain ⟨_, hf7⟩ := tb_freeS HLX.out 3 rfl rfl
    have HN0 : Hid (∀ p, p ∈ (cl7 w3.heap.size (.int .i64 s) (.int .i64 v) (.slice a (flen k) c) w4.heap.size (.int .i64 ((z : Int) - 1)) (.bool back) (.slice pA place.length pC) (.slice B bs.length D)) → p.1.block ≠ w.heap.size) := cl7_blk (by omega) (by omega)
    have HN1 : Hid (∀ p, p ∈ (cl7 w3.heap.size (.int .i64 s) (.int .i64 v) (.slice a (flen k) c) w4.heap.size (.int .i64 ((z : Int) - 1)) (.bool back) (.slice pA place.length pC) (.slice B bs.length D)) → p.1.block ≠ w.heap.size + 1) := cl7_blk (by omega) (by omega)
    haveI : Nonempty (SeenD (cl7 w3.heap.size (.int .i64 s) (.int .i64 v) (.slice a (flen k) c) w4.heap.size (.int .i64 ((z : Int) - 1)) (.bool back) (.slice pA place.length pC) (.slice B bs.length D))) := ⟨⟨_, HAT.out⟩⟩
    have hu0 : ∀ u : SeenD (cl7 w3.heap.size (.int .i64 s) (.int .i64 v) (.slice a (flen k) c) w4.heap.size (.int .i64 ((z : Int) - 1)) (.bool back) (.slice pA place.length pC) (.slice B bs.length D)), u.world.cell? ⟨w3.heap.size, 0, none⟩ = some (.int .i64 s) := fun u => u.at_ (_, _) (by simp [cl7])
    have hu1 : ∀ u : SeenD (cl7 w3.heap.size (.int .i64 s) (.int .i64 v) (.slice a (flen k) c) w4.heap.size (.int .i64 ((z : Int) - 1)) (.bool back) (.slice pA place.length pC) (.slice B bs.length D)), u.world.cell? ⟨w3.heap.size, 1, none⟩ = some (.int .i64 v) := fun u => u.at_ (_, _) (by simp [cl7])
    have hu2 : ∀ u : SeenD (cl7 w3.heap.size (.int .i64 s) (.int .i64 v) (.slice a (flen k) c) w4.heap.size (.int .i64 ((z : Int) - 1)) (.bool back) (.slice pA place.length pC) (.slice B bs.length D)), u.world.cell? ⟨w3.heap.size, 2, none⟩ = some (.slice a (flen k) c) := fun u => u.at_ (_, _) (by simp [cl7])
    have hu3 : ∀ u : SeenD (cl7 w3.heap.size (.int .i64 s) (.int .i64 v) (.slice a (flen k) c) w4.heap.size (.int .i64 ((z : Int) - 1)) (.bool back) (.slice pA place.length pC) (.slice B bs.length D)), u.world.cell? ⟨w4.heap.size, 0, none⟩ = some (.int .i64 ((z : Int) - 1)) := fun u => u.at_ (_, _) (by simp [cl7])
    have hu4 : ∀ u : SeenD (cl7 w3.heap.size (.int .i64 s) (.int .i64 v) (.slice a (flen k) c) w4.heap.size (.int .i64 ((z : Int) - 1)) (.bool back) (.slice pA place.length pC) (.slice B bs.length D)), u.world.cell? ⟨w4.heap.size, 1, none⟩ = some (.bool back) := fun u => u.at_ (_, _) (by simp [cl7])
    have hu5 : ∀ u : SeenD (cl7 w3.heap.size (.int .i64 s) (.int .i64 v) (.slice a (flen k) c) w4.heap.size (.int .i64 ((z : Int) - 1)) (.bool back) (.slice pA place.length pC) (.slice B bs.length D)), u.world.cell? ⟨w4.heap.size, 2, none⟩ = some (.slice pA place.length pC) := fun u => u.at_ (_, _) (by simp [cl7])
    have hu6 : ∀ u : SeenD (cl7 w3.heap.size (.int .i64 s) (.int .i64 v) (.slice a (flen k) c) w4.heap.size (.int .i64 ((z : Int) - 1)) (.bool back) (.slice pA place.length pC) (.slice B bs.length D)), u.world.cell? ⟨w4.heap.size, 3, none⟩ = some (.slice B bs.length D) := fun u => u.at_ (_, _) (by simp [cl7])
    refine wp_region_mix (fun w' => ∃ u : SeenD (cl7 w3.heap.size (.int .i64 s) (.int .i64 v) (.slice a (flen k) c) w4.heap.size (.int .i64 ((z : Int) - 1)) (.bool back) (.slice pA place.length pC) (.slice B bs.length D)), w' = u.world) [] [(0, 0), (1, 0), (2, 0), (3, 0), (4, 1), (5, 1)] (by kernel_rfl) (by kernel_rfl) (seenD_drew HAT.out) ?_
    iterate 4
      refine mix_see rfl (fun K hK => ?_)
      go_simp
      refine hK _ ?_
      clear hK K
    clear hu0 hu1 hu2 hu3 hu4 hu5 hu6
    refine mix_hold rfl (fun K hK => ?_)
    go_simp
    refine hK _ _ (seenD_drew (storeD HAT.out HN0.out _ _ _)) ?_
    clear hK K
    refine mix_hold rfl (fun K hK => ?_)
    go_simp
    refine hK _ _ (seenD_drew (store4 (storeD HAT.out HN0.out _ _ _) HN1.out _ _ _ _)) ?_
    clear hK K
    refine mix_end ?_
    go_wp2_with fail
    refine bodyPost_ret (v := .tuple #[.slice A es.length C, .agg #[.int .i64 s, .int .i64 v, .slice a (flen k) c], .agg #[.int .i64 ((z : Int) - 1), .bool back, .slice pA place.length pC, .slice B bs.length D]]) ?_ rfl (dl_end HLX.out hel HOK.out (by omega) (by omega) (by omega) HEX.out HTX.out HPX.out HBX.out _ _ _ _ _ _ _)
    simp [results, Try.results28, go_sem, hr0, hr1, hr2, hr3, hr4, hr5, hr6]
  have d2 : ((y : Int) == 2) = false := by have h : (y : Int) ≠ 2 := by omega
                                           simpa using h
  by_cases y3 : y = 3
  · subst y3
    by_cases hb0 : 0 < bs.length
    · have hg : (0 : Int) < (bs.length : Int) := by omega
      obtain ⟨B2, hrun, hcut⟩ := cutB_one (B := B) hb0 HD.out.hb.2
      have l0 := HD.out.l0
      have l1 := HD.out.l1
      have l2 := HD.out.l2
      have l3 := HD.out.l3
      have fr0 := HD.out.fr 0
      have fr1 := HD.out.fr 1
      have fr2 := HD.out.fr 2
      have fr3 := HD.out.fr 3
      have hbrE := HBR.out
      have hd1 := HD.out.hbt
      have hd2 := HD.out.hbl
      have hd3 := HD.out.hsz
      have HLX : Hid (Below (w.heap.size + 2) ((w.alloc (.cells #[.int .i64 0, .int .i64 0, .slice none 0 0] 35)).alloc (.cells #[.int .i64 0, .bool false, .slice none 0 0, .slice none 0 0] 43)) (w5.setCell ⟨w4.heap.size, 3, none⟩ (.slice B2 (bs.length - 1) (D - 1)))) := HD.out.low.setCell (by dsimp only; omega) _
      have HEX : Hid (ESl (w5.setCell ⟨w4.heap.size, 3, none⟩ (.slice B2 (bs.length - 1) (D - 1))) (w.heap.size + 2) (w5.setCell ⟨w4.heap.size, 3, none⟩ (.slice B2 (bs.length - 1) (D - 1))).heap.size A es) := (HD.out.he.same (Same.setCell (fun _ _ _ => rfl) (.inr (by first | omega | (dsimp only; omega))) _)).mono (by omega) (by simp <;> omega)
      have HTX : Hid (Sl (w5.setCell ⟨w4.heap.size, 3, none⟩ (.slice B2 (bs.length - 1) (D - 1))) (w.heap.size + 2) (w5.setCell ⟨w4.heap.size, 3, none⟩ (.slice B2 (bs.length - 1) (D - 1))).heap.size a k) := (HD.out.hl.same (Same.setCell (fun _ _ _ => rfl) (.inr (by first | omega | (dsimp only; omega))) _)).mono (by omega) (by simp <;> omega)
      have HPX : Hid (ISc (w5.setCell ⟨w4.heap.size, 3, none⟩ (.slice B2 (bs.length - 1) (D - 1))) (w.heap.size + 2) (w5.setCell ⟨w4.heap.size, 3, none⟩ (.slice B2 (bs.length - 1) (D - 1))).heap.size pA pC place) := (HD.out.hp.same (Same.setCell (fun _ _ _ => rfl) (.inr (by first | omega | (dsimp only; omega))) _)).mono (by omega) (by simp <;> omega)
      have hbx : BSl (w5.setCell ⟨w4.heap.size, 3, none⟩ (.slice B2 (bs.length - 1) (D - 1))) (w3.heap.size + 1) w4.heap.size B bs := BSl.same (Same.setCell (fun _ _ _ => rfl) (.inr (by first | omega | (dsimp only; omega))) _) HD.out.hb.1
      have HBX : Hid (BSl (w5.setCell ⟨w4.heap.size, 3, none⟩ (.slice B2 (bs.length - 1) (D - 1))) (w.heap.size + 2) (w5.setCell ⟨w4.heap.size, 3, none⟩ (.slice B2 (bs.length - 1) (D - 1))).heap.size B2 (bs.drop 1)) := (hcut hbx).mono (by omega) (by simp <;> omega)
      have HAT : Hid (∀ p, p ∈ (cl7 w3.heap.size (.int .i64 s) (.int .i64 v) (.slice a (flen k) c) w4.heap.size (.int .i64 eq) (.bool back) (.slice pA place.length pC) (.slice B2 (bs.length - 1) (D - 1))) → ((w5.setCell ⟨w4.heap.size, 3, none⟩ (.slice B2 (bs.length - 1) (D - 1)))).cell? p.1 = some p.2) := cl7_at (by rw [World.cell?_setCell_other _ _ _ _ (by intro e; simp only [Addr.mk.injEq] at e; omega)]; exact HD.out.t0) (by rw [World.cell?_setCell_other _ _ _ _ (by intro e; simp only [Addr.mk.injEq] at e; omega)]; exact HD.out.t1) (by rw [World.cell?_setCell_other _ _ _ _ (by intro e; simp only [Addr.mk.injEq] at e; omega)]; exact HD.out.t2) (by rw [World.cell?_setCell_other _ _ _ _ (by intro e; simp only [Addr.mk.injEq] at e; omega)]; exact HD.out.l0) (by rw [World.cell?_setCell_other _ _ _ _ (by intro e; simp only [Addr.mk.injEq] at e; omega)]; exact HD.out.l1) (by rw [World.cell?_setCell_other _ _ _ _ (by intro e; simp only [Addr.mk.injEq] at e; omega)]; exact HD.out.l2) (World.cell?_setCell_same _ _ _ HD.out.l3)
      have hd4 : w.heap.size + 2 < w3.heap.size := by omega
      clear hbrE
      go_wp2_with fail
      clear l0 l1 l2 l3 fr0 fr1 fr2 fr3
      clear HD hbx
      obtain ⟨hr0, hr1, hr2, hr3, hr4, hr5, hr6⟩ := ft_cells HLX.out
      obtain ⟨hf0, hf4⟩ := tb_freeS HLX.out 0 rfl rfl
      obtain ⟨hf1, hf5⟩ := tb_freeS HLX.out 1 rfl rfl
      obtain ⟨hf2, hf6⟩ := tb_freeS HLX.out 2 rfl rfl
      obtain ⟨_, hf7⟩ := tb_freeS HLX.out 3 rfl rfl
      have HN0 : Hid (∀ p, p ∈ (cl7 w3.heap.size (.int .i64 s) (.int .i64 v) (.slice a (flen k) c) w4.heap.size (.int .i64 eq) (.bool back) (.slice pA place.length pC) (.slice B2 (bs.length - 1) (D - 1))) → p.1.block ≠ w.heap.size) := cl7_blk (by omega) (by omega)
      have HN1 : Hid (∀ p, p ∈ (cl7 w3.heap.size (.int .i64 s) (.int .i64 v) (.slice a (flen k) c) w4.heap.size (.int .i64 eq) (.bool back) (.slice pA place.length pC) (.slice B2 (bs.length - 1) (D - 1))) → p.1.block ≠ w.heap.size + 1) := cl7_blk (by omega) (by omega)
      haveI : Nonempty (SeenD (cl7 w3.heap.size (.int .i64 s) (.int .i64 v) (.slice a (flen k) c) w4.heap.size (.int .i64 eq) (.bool back) (.slice pA place.length pC) (.slice B2 (bs.length - 1) (D - 1)))) := ⟨⟨_, HAT.out⟩⟩
      have hu0 : ∀ u : SeenD (cl7 w3.heap.size (.int .i64 s) (.int .i64 v) (.slice a (flen k) c) w4.heap.size (.int .i64 eq) (.bool back) (.slice pA place.length pC) (.slice B2 (bs.length - 1) (D - 1))), u.world.cell? ⟨w3.heap.size, 0, none⟩ = some (.int .i64 s) := fun u => u.at_ (_, _) (by simp [cl7])
      have hu1 : ∀ u : SeenD (cl7 w3.heap.size (.int .i64 s) (.int .i64 v) (.slice a (flen k) c) w4.heap.size (.int .i64 eq) (.bool back) (.slice pA place.length pC) (.slice B2 (bs.length - 1) (D - 1))), u.world.cell? ⟨w3.heap.size, 1, none⟩ = some (.int .i64 v) := fun u => u.at_ (_, _) (by simp [cl7])
      have hu2 : ∀ u : SeenD (cl7 w3.heap.size (.int .i64 s) (.int .i64 v) (.slice a (flen k) c) w4.heap.size (.int .i64 eq) (.bool back) (.slice pA place.length pC) (.slice B2 (bs.length - 1) (D - 1))), u.world.cell? ⟨w3.heap.size, 2, none⟩ = some (.slice a (flen k) c) := fun u => u.at_ (_, _) (by simp [cl7])
      have hu3 : ∀ u : SeenD (cl7 w3.heap.size (.int .i64 s) (.int .i64 v) (.slice a (flen k) c) w4.heap.size (.int .i64 eq) (.bool back) (.slice pA place.length pC) (.slice B2 (bs.length - 1) (D - 1))), u.world.cell? ⟨w4.heap.size, 0, none⟩ = some (.int .i64 eq) := fun u => u.at_ (_, _) (by simp [cl7])
      have hu4 : ∀ u : SeenD (cl7 w3.heap.size (.int .i64 s) (.int .i64 v) (.slice a (flen k) c) w4.heap.size (.int .i64 eq) (.bool back) (.slice pA place.length pC) (.slice B2 (bs.length - 1) (D - 1))), u.world.cell? ⟨w4.heap.size, 1, none⟩ = some (.bool back) := fun u => u.at_ (_, _) (by simp [cl7])
      have hu5 : ∀ u : SeenD (cl7 w3.heap.size (.int .i64 s) (.int .i64 v) (.slice a (flen k) c) w4.heap.size (.int .i64 eq) (.bool back) (.slice pA place.length pC) (.slice B2 (bs.length - 1) (D - 1))), u.world.cell? ⟨w4.heap.size, 2, none⟩ = some (.slice pA place.length pC) := fun u => u.at_ (_, _) (by simp [cl7])
      have hu6 : ∀ u : SeenD (cl7 w3.heap.size (.int .i64 s) (.int .i64 v) (.slice a (flen k) c) w4.heap.size (.int .i64 eq) (.bool back) (.slice pA place.length pC) (.slice B2 (bs.length - 1) (D - 1))), u.world.cell? ⟨w4.heap.size, 3, none⟩ = some (.slice B2 (bs.length - 1) (D - 1)) := fun u => u.at_ (_, _) (by simp [cl7])
      refine wp_region_mix (fun w' => ∃ u : SeenD (cl7 w3.heap.size (.int .i64 s) (.int .i64 v) (.slice a (flen k) c) w4.heap.size (.int .i64 eq) (.bool back) (.slice pA place.length pC) (.slice B2 (bs.length - 1) (D - 1))), w' = u.world) [] [(0, 0), (1, 0), (2, 0), (3, 0), (4, 1), (5, 1)] (by kernel_rfl) (by kernel_rfl) (seenD_drew HAT.out) ?_
      iterate 4
        refine mix_see rfl (fun K hK => ?_)
        go_simp
        refine hK _ ?_
        clear hK K
      clear hu0 hu1 hu2 hu3 hu4 hu5 hu6
      refine mix_hold rfl (fun K hK => ?_)
      go_simp
      refine hK _ _ (seenD_drew (storeD HAT.out HN0.out _ _ _)) ?_
      clear hK K
      refine mix_hold rfl (fun K hK => ?_)
      go_simp
      refine hK _ _ (seenD_drew (store4 (storeD HAT.out HN0.out _ _ _) HN1.out _ _ _ _)) ?_
      clear hK K
      refine mix_end ?_
      go_wp2_with fail
      have hend := dl_end (C := C) (c := c) (eq := eq) (back := back) (D := D - 1) (pC := pC) (bs := bs.drop 1) HLX.out hel HOK.out (by omega) (by omega) (by rw [List.length_drop]; omega) HEX.out HTX.out HPX.out HBX.out (.int .i64 s) (.int .i64 v) (.slice a (flen k) c) (.int .i64 eq) (.bool back) (.slice pA place.length pC) (.slice B2 (bs.length - 1) (D - 1))
      rw [List.length_drop] at hend
      refine bodyPost_ret (v := .tuple #[.slice A es.length C, .agg #[.int .i64 s, .int .i64 v, .slice a (flen k) c], .agg #[.int .i64 eq, .bool back, .slice pA place.length pC, .slice B2 (bs.length - 1) (D - 1)]]) ?_ rfl hend
      simp [results, Try.results28, go_sem, hr0, hr1, hr2, hr3, hr4, hr5, hr6]
    · have hg : decide ((bs.length : Int) > 0) = false := decide_eq_false (by omega)
      have l0 := HD.out.l0
      have l1 := HD.out.l1
      have l2 := HD.out.l2
      have l3 := HD.out.l3
      have fr0 := HD.out.fr 0
      have fr1 := HD.out.fr 1
      have fr2 := HD.out.fr 2
      have fr3 := HD.out.fr 3
      have hbrE := HBR.out
      have hd1 := HD.out.hbt
      have hd2 := HD.out.hbl
      have hd3 := HD.out.hsz
      have HLX := Lib.hid HD.out.low
      have HEX : Hid (ESl w5 (w.heap.size + 2) w5.heap.size A es) := (HD.out.he.same (fun _ _ _ => rfl)).mono (by omega) (by omega)
      have HTX : Hid (Sl w5 (w.heap.size + 2) w5.heap.size a k) := (HD.out.hl.same (fun _ _ _ => rfl)).mono (by omega) (by omega)
      have HPX : Hid (ISc w5 (w.heap.size + 2) w5.heap.size pA pC place) := (HD.out.hp.same (fun _ _ _ => rfl)).mono (by omega) (by omega)
      have hbx : BSl w5 (w3.heap.size + 1) w4.heap.size B bs := BSl.same (fun _ _ _ => rfl) HD.out.hb.1
      have HBX : Hid (BSl w5 (w.heap.size + 2) w5.heap.size B bs) := hbx.mono (by omega) (by omega)
      have HAT : Hid (∀ p, p ∈ (cl7 w3.heap.size (.int .i64 s) (.int .i64 v) (.slice a (flen k) c) w4.heap.size (.int .i64 eq) (.bool back) (.slice pA place.length pC) (.slice B bs.length D)) → (w5).cell? p.1 = some p.2) := cl7_at HD.out.t0 HD.out.t1 HD.out.t2 HD.out.l0 HD.out.l1 HD.out.l2 HD.out.l3
      have hd4 : w.heap.size + 2 < w3.heap.size := by omega
      clear hbrE
      go_wp2_with fail
      clear l0 l1 l2 l3 fr0 fr1 fr2 fr3
      clear HD hbx
      obtain ⟨hr0, hr1, hr2, hr3, hr4, hr5, hr6⟩ := ft_cells HLX.out
      obtain ⟨hf0, hf4⟩ := tb_freeS HLX.out 0 rfl rfl
      obtain ⟨hf1, hf5⟩ := tb_freeS HLX.out 1 rfl rfl
      obtain ⟨hf2, hf6⟩ := tb_freeS HLX.out 2 rfl rfl
      obtain ⟨_, hf7⟩ := tb_freeS HLX.out 3 rfl rfl
      have HN0 : Hid (∀ p, p ∈ (cl7 w3.heap.size (.int .i64 s) (.int .i64 v) (.slice a (flen k) c) w4.heap.size (.int .i64 eq) (.bool back) (.slice pA place.length pC) (.slice B bs.length D)) → p.1.block ≠ w.heap.size) := cl7_blk (by omega) (by omega)
      have HN1 : Hid (∀ p, p ∈ (cl7 w3.heap.size (.int .i64 s) (.int .i64 v) (.slice a (flen k) c) w4.heap.size (.int .i64 eq) (.bool back) (.slice pA place.length pC) (.slice B bs.length D)) → p.1.block ≠ w.heap.size + 1) := cl7_blk (by omega) (by omega)
      haveI : Nonempty (SeenD (cl7 w3.heap.size (.int .i64 s) (.int .i64 v) (.slice a (flen k) c) w4.heap.size (.int .i64 eq) (.bool back) (.slice pA place.length pC) (.slice B bs.length D))) := ⟨⟨_, HAT.out⟩⟩
      have hu0 : ∀ u : SeenD (cl7 w3.heap.size (.int .i64 s) (.int .i64 v) (.slice a (flen k) c) w4.heap.size (.int .i64 eq) (.bool back) (.slice pA place.length pC) (.slice B bs.length D)), u.world.cell? ⟨w3.heap.size, 0, none⟩ = some (.int .i64 s) := fun u => u.at_ (_, _) (by simp [cl7])
      have hu1 : ∀ u : SeenD (cl7 w3.heap.size (.int .i64 s) (.int .i64 v) (.slice a (flen k) c) w4.heap.size (.int .i64 eq) (.bool back) (.slice pA place.length pC) (.slice B bs.length D)), u.world.cell? ⟨w3.heap.size, 1, none⟩ = some (.int .i64 v) := fun u => u.at_ (_, _) (by simp [cl7])
      have hu2 : ∀ u : SeenD (cl7 w3.heap.size (.int .i64 s) (.int .i64 v) (.slice a (flen k) c) w4.heap.size (.int .i64 eq) (.bool back) (.slice pA place.length pC) (.slice B bs.length D)), u.world.cell? ⟨w3.heap.size, 2, none⟩ = some (.slice a (flen k) c) := fun u => u.at_ (_, _) (by simp [cl7])
      have hu3 : ∀ u : SeenD (cl7 w3.heap.size (.int .i64 s) (.int .i64 v) (.slice a (flen k) c) w4.heap.size (.int .i64 eq) (.bool back) (.slice pA place.length pC) (.slice B bs.length D)), u.world.cell? ⟨w4.heap.size, 0, none⟩ = some (.int .i64 eq) := fun u => u.at_ (_, _) (by simp [cl7])
      have hu4 : ∀ u : SeenD (cl7 w3.heap.size (.int .i64 s) (.int .i64 v) (.slice a (flen k) c) w4.heap.size (.int .i64 eq) (.bool back) (.slice pA place.length pC) (.slice B bs.length D)), u.world.cell? ⟨w4.heap.size, 1, none⟩ = some (.bool back) := fun u => u.at_ (_, _) (by simp [cl7])
      have hu5 : ∀ u : SeenD (cl7 w3.heap.size (.int .i64 s) (.int .i64 v) (.slice a (flen k) c) w4.heap.size (.int .i64 eq) (.bool back) (.slice pA place.length pC) (.slice B bs.length D)), u.world.cell? ⟨w4.heap.size, 2, none⟩ = some (.slice pA place.length pC) := fun u => u.at_ (_, _) (by simp [cl7])
      have hu6 : ∀ u : SeenD (cl7 w3.heap.size (.int .i64 s) (.int .i64 v) (.slice a (flen k) c) w4.heap.size (.int .i64 eq) (.bool back) (.slice pA place.length pC) (.slice B bs.length D)), u.world.cell? ⟨w4.heap.size, 3, none⟩ = some (.slice B bs.length D) := fun u => u.at_ (_, _) (by simp [cl7])
      refine wp_region_mix (fun w' => ∃ u : SeenD (cl7 w3.heap.size (.int .i64 s) (.int .i64 v) (.slice a (flen k) c) w4.heap.size (.int .i64 eq) (.bool back) (.slice pA place.length pC) (.slice B bs.length D)), w' = u.world) [] [(0, 0), (1, 0), (2, 0), (3, 0), (4, 1), (5, 1)] (by kernel_rfl) (by kernel_rfl) (seenD_drew HAT.out) ?_
      iterate 4
        refine mix_see rfl (fun K hK => ?_)
        go_simp
        refine hK _ ?_
        clear hK K
      clear hu0 hu1 hu2 hu3 hu4 hu5 hu6
      refine mix_hold rfl (fun K hK => ?_)
      go_simp
      refine hK _ _ (seenD_drew (storeD HAT.out HN0.out _ _ _)) ?_
      clear hK K
      refine mix_hold rfl (fun K hK => ?_)
      go_simp
      refine hK _ _ (seenD_drew (store4 (storeD HAT.out HN0.out _ _ _) HN1.out _ _ _ _)) ?_
      clear hK K
      refine mix_end ?_
      go_wp2_with fail
      refine bodyPost_ret (v := .tuple #[.slice A es.length C, .agg #[.int .i64 s, .int .i64 v, .slice a (flen k) c], .agg #[.int .i64 eq, .bool back, .slice pA place.length pC, .slice B bs.length D]]) ?_ rfl (dl_end HLX.out hel HOK.out (by omega) (by omega) (by omega) HEX.out HTX.out HPX.out HBX.out _ _ _ _ _ _ _)
      simp [results, Try.results28, go_sem, hr0, hr1, hr2, hr3, hr4, hr5, hr6]
  have d3 : ((y : Int) == 3) = false := by have h : (y : Int) ≠ 3 := by omega
                                           simpa using h
  have l0 := HD.out.l0
  have l1 := HD.out.l1
  have l2 := HD.out.l2
  have l3 := HD.out.l3
  have fr0 := HD.out.fr 0
  have fr1 := HD.out.fr 1
  have fr2 := HD.out.fr 2
  have fr3 := HD.out.fr 3
  have hbrE := HBR.out
  have hd1 := HD.out.hbt
  have hd2 := HD.out.hbl
  have hd3 := HD.out.hsz
  have HLX := Lib.hid HD.out.low
  have HEX : Hid (ESl w5 (w.heap.size + 2) w5.heap.size A es) := (HD.out.he.same (fun _ _ _ => rfl)).mono (by omega) (by omega)
  have HTX : Hid (Sl w5 (w.heap.size + 2) w5.heap.size a k) := (HD.out.hl.same (fun _ _ _ => rfl)).mono (by omega) (by omega)
  have HPX : Hid (ISc w5 (w.heap.size + 2) w5.heap.size pA pC place) := (HD.out.hp.same (fun _ _ _ => rfl)).mono (by omega) (by omega)
  have hbx : BSl w5 (w3.heap.size + 1) w4.heap.size B bs := BSl.same (fun _ _ _ => rfl) HD.out.hb.1
  have HBX : Hid (BSl w5 (w.heap.size + 2) w5.heap.size B bs) := hbx.mono (by omega) (by omega)
  have HAT : Hid (∀ p, p ∈ (cl7 w3.heap.size (.int .i64 s) (.int .i64 v) (.slice a (flen k) c) w4.heap.size (.int .i64 eq) (.bool back) (.slice pA place.length pC) (.slice B bs.length D)) → (w5).cell? p.1 = some p.2) := cl7_at HD.out.t0 HD.out.t1 HD.out.t2 HD.out.l0 HD.out.l1 HD.out.l2 HD.out.l3
  have hd4 : w.heap.size + 2 < w3.heap.size := by omega
  clear hbrE
  go_wp2_with fail
  clear l0 l1 l2 l3 fr0 fr1 fr2 fr3
  clear HD hbx
  obtain ⟨hr0, hr1, hr2, hr3, hr4, hr5, hr6⟩ := ft_cells HLX.out
  obtain ⟨hf0, hf4⟩ := tb_freeS HLX.out 0 rfl rfl
  obtain ⟨hf1, hf5⟩ := tb_freeS HLX.out 1 rfl rfl
  obtain ⟨hf2, hf6⟩ := tb_freeS HLX.out 2 rfl rfl
  obtain ⟨_, hf7⟩ := tb_freeS HLX.out 3 rfl rfl
  have HN0 : Hid (∀ p, p ∈ (cl7 w3.heap.size (.int .i64 s) (.int .i64 v) (.slice a (flen k) c) w4.heap.size (.int .i64 eq) (.bool back) (.slice pA place.length pC) (.slice B bs.length D)) → p.1.block ≠ w.heap.size) := cl7_blk (by omega) (by omega)
  have HN1 : Hid (∀ p, p ∈ (cl7 w3.heap.size (.int .i64 s) (.int .i64 v) (.slice a (flen k) c) w4.heap.size (.int .i64 eq) (.bool back) (.slice pA place.length pC) (.slice B bs.length D)) → p.1.block ≠ w.heap.size + 1) := cl7_blk (by omega) (by omega)
  haveI : Nonempty (SeenD (cl7 w3.heap.size (.int .i64 s) (.int .i64 v) (.slice a (flen k) c) w4.heap.size (.int .i64 eq) (.bool back) (.slice pA place.length pC) (.slice B bs.length D))) := ⟨⟨_, HAT.out⟩⟩
  have hu0 : ∀ u : SeenD (cl7 w3.heap.size (.int .i64 s) (.int .i64 v) (.slice a (flen k) c) w4.heap.size (.int .i64 eq) (.bool back) (.slice pA place.length pC) (.slice B bs.length D)), u.world.cell? ⟨w3.heap.size, 0, none⟩ = some (.int .i64 s) := fun u => u.at_ (_, _) (by simp [cl7])
  have hu1 : ∀ u : SeenD (cl7 w3.heap.size (.int .i64 s) (.int .i64 v) (.slice a (flen k) c) w4.heap.size (.int .i64 eq) (.bool back) (.slice pA place.length pC) (.slice B bs.length D)), u.world.cell? ⟨w3.heap.size, 1, none⟩ = some (.int .i64 v) := fun u => u.at_ (_, _) (by simp [cl7])
  have hu2 : ∀ u : SeenD (cl7 w3.heap.size (.int .i64 s) (.int .i64 v) (.slice a (flen k) c) w4.heap.size (.int .i64 eq) (.bool back) (.slice pA place.length pC) (.slice B bs.length D)), u.world.cell? ⟨w3.heap.size, 2, none⟩ = some (.slice a (flen k) c) := fun u => u.at_ (_, _) (by simp [cl7])
  have hu3 : ∀ u : SeenD (cl7 w3.heap.size (.int .i64 s) (.int .i64 v) (.slice a (flen k) c) w4.heap.size (.int .i64 eq) (.bool back) (.slice pA place.length pC) (.slice B bs.length D)), u.world.cell? ⟨w4.heap.size, 0, none⟩ = some (.int .i64 eq) := fun u => u.at_ (_, _) (by simp [cl7])
  have hu4 : ∀ u : SeenD (cl7 w3.heap.size (.int .i64 s) (.int .i64 v) (.slice a (flen k) c) w4.heap.size (.int .i64 eq) (.bool back) (.slice pA place.length pC) (.slice B bs.length D)), u.world.cell? ⟨w4.heap.size, 1, none⟩ = some (.bool back) := fun u => u.at_ (_, _) (by simp [cl7])
  have hu5 : ∀ u : SeenD (cl7 w3.heap.size (.int .i64 s) (.int .i64 v) (.slice a (flen k) c) w4.heap.size (.int .i64 eq) (.bool back) (.slice pA place.length pC) (.slice B bs.length D)), u.world.cell? ⟨w4.heap.size, 2, none⟩ = some (.slice pA place.length pC) := fun u => u.at_ (_, _) (by simp [cl7])
  have hu6 : ∀ u : SeenD (cl7 w3.heap.size (.int .i64 s) (.int .i64 v) (.slice a (flen k) c) w4.heap.size (.int .i64 eq) (.bool back) (.slice pA place.length pC) (.slice B bs.length D)), u.world.cell? ⟨w4.heap.size, 3, none⟩ = some (.slice B bs.length D) := fun u => u.at_ (_, _) (by simp [cl7])
  refine wp_region_mix (fun w' => ∃ u : SeenD (cl7 w3.heap.size (.int .i64 s) (.int .i64 v) (.slice a (flen k) c) w4.heap.size (.int .i64 eq) (.bool back) (.slice pA place.length pC) (.slice B bs.length D)), w' = u.world) [] [(0, 0), (1, 0), (2, 0), (3, 0), (4, 1), (5, 1)] (by kernel_rfl) (by kernel_rfl) (seenD_drew HAT.out) ?_
  iterate 4
    refine mix_see rfl (fun K hK => ?_)
    go_simp
    refine hK _ ?_
    clear hK K
  clear hu0 hu1 hu2 hu3 hu4 hu5 hu6
  refine mix_hold rfl (fun K hK => ?_)
  go_simp
  refine hK _ _ (seenD_drew (storeD HAT.out HN0.out _ _ _)) ?_
  clear hK K
  refine mix_hold rfl (fun K hK => ?_)
  go_simp
  refine hK _ _ (seenD_drew (store4 (storeD HAT.out HN0.out _ _ _) HN1.out _ _ _ _)) ?_
  clear hK K
  refine mix_end ?_
  go_wp2_with fail
  refine bodyPost_ret (v := .tuple #[.slice A es.length C, .agg #[.int .i64 s, .int .i64 v, .slice a (flen k) c], .agg #[.int .i64 eq, .bool back, .slice pA place.length pC, .slice B bs.length D]]) ?_ rfl (dl_end HLX.out hel HOK.out (by omega) (by omega) (by omega) HEX.out HTX.out HPX.out HBX.out _ _ _ _ _ _ _)
  simp [results, Try.results28, go_sem, hr0, hr1, hr2, hr3, hr4, hr5, hr6]
end Go.Proofs.Ytdkcbbhkoibplaa
