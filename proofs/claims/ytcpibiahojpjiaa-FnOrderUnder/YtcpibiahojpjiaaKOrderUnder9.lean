/- Several texts in one: H3, OK2, UM, T1, G2. -/
import Derived.Test.YtcpibiahojpjiaaKOrderUnder8
import Derived.Test.YtcpibiahojpjiaaKOrderUnder4
import Derived.Test.YtcpibiahojpjiaaKOrderUnder1
import Derived.Test.YtcpibiahojpjiaaKOrderUnder2
import Derived.Test.YtcpibiahojpjiaaKOrderUnder3
import Derived.Shelf.Lay
import Derived.Shelf.Strconv.Itoa3
import Derived.Shelf.Strings.OnBuilder
import Derived.Ground.NamesProg
import Derived.Lib.Slices

/-! H3: l3More. -/
namespace Go.Proofs.Ytcpibiahojpjiaa
open Go.RowKit Go.Deep
attribute [local go_sem ↓] Go.wp_at_zero Go.wp_at_succ

theorem moreS_all (L : Look) : ∀ M : Nat, FindTo L M
  | 0 => fun a b rows w _ _ h => absurd h (Nat.not_lt_zero _)
  | M + 1 => fun a b rows w ha hb hM hlk hkn => findS_any (moreS_any (moreS_all L M)) a b rows w ha hb (by omega) hlk hkn

def cells3 (p : Nat) (s v : Int) (y : Value) : List (Addr × Value) := [(⟨p, 0, none⟩, .int .i64 s), (⟨p, 1, none⟩, .int .i64 v), (⟨p, 2, none⟩, y)]
def cells2 (g : Nat) (x y : Value) : List (Addr × Value) := [(⟨g, 5, none⟩, x), (⟨g, 3, none⟩, y)]

theorem seen3 {w : World} {p : Nat} {s v : Int} {y : Value} (h0 : w.cell? ⟨p, 0, none⟩ = some (.int .i64 s)) (h1 : w.cell? ⟨p, 1, none⟩ = some (.int .i64 v)) (h2 : w.cell? ⟨p, 2, none⟩ = some y) : ∃ u : SeenC (cells3 p s v y), w = u.world := ⟨⟨w, fun q hq => by
  simp only [cells3, List.mem_cons, List.not_mem_nil, or_false] at hq
  rcases hq with rfl | rfl | rfl
  · exact h0
  · exact h1
  · exact h2⟩, rfl⟩

theorem flat_start {w : World} {g po : Nat} (h : g < w.heap.size) (c0 : w.cell? ⟨g, po, none⟩ = some (.slice none 0 0)) (c1 : w.cell? ⟨g, po + 1, none⟩ = some (.slice none 0 0)) (z0 : w.frozen? ⟨g, po, none⟩ = false) (z1 : w.frozen? ⟨g, po + 1, none⟩ = false) :
    Flat w (g + 1) g po (fun _ => False) ⟨none, 0, none, 0, [], []⟩ [] [] :=
  ⟨by omega, h, c0, c1, z0, z1, World.ownsRow_nil _ _ _ _, World.ownsRow_nil _ _ _ _, fun _ h => h.elim, fun _ h => by simp [Value.ownBlock] at h, fun _ h => by simp [Value.ownBlock] at h, fun _ h => by simp [Value.ownBlock] at h, fun i t ht => by simp at ht, fun i r hr => by simp at hr, fun i j x y q _ hx => by simp at hx⟩

theorem Touch.undrew {g po : Nat} {O : Nat → Prop} {w w2 : World} (h : Touch g po O w.drew w2) : Touch g po O w w2 := ⟨h.os, h.tape, h.output, h.size, h.block, h.cell, h.free⟩

/-- The world at the start: the two terms' boxes, the look. -/
structure L3 (w : World) (x : Value) (s v : Int) (y : Value) (s' v' : Int) (y' : Value) (g : Nat) (w1 : World) : Prop where
  low : Below w.heap.size w w1
  gE : g = w.heap.size + 2
  size : w1.heap.size = w.heap.size + 3
  s0 : w1.cell? ⟨w.heap.size, 0, none⟩ = some (.int .i64 s)
  s1 : w1.cell? ⟨w.heap.size, 1, none⟩ = some (.int .i64 v)
  s2 : w1.cell? ⟨w.heap.size, 2, none⟩ = some y
  t0 : w1.cell? ⟨w.heap.size + 1, 0, none⟩ = some (.int .i64 s')
  t1 : w1.cell? ⟨w.heap.size + 1, 1, none⟩ = some (.int .i64 v')
  t2 : w1.cell? ⟨w.heap.size + 1, 2, none⟩ = some y'
  g0 : w1.cell? ⟨g, 0, none⟩ = some x
  gN : ∀ o, 1 ≤ o → o ≤ 5 → w1.cell? ⟨g, o, none⟩ = some (.slice none 0 0)
  gz : ∀ o, w1.frozen? ⟨g, o, none⟩ = false
theorem l3_start (w : World) (x : Value) (s v : Int) (y : Value) (s' v' : Int) (y' : Value) : L3 w x s v y s' v' y' (w.heap.size + 1 + 1) (((w.alloc (.cells #[.int .i64 s, .int .i64 v, y] 26)).alloc (.cells #[.int .i64 s', .int .i64 v', y'] 26)).alloc (.cells #[x, .slice none 0 0, .slice none 0 0, .slice none 0 0, .slice none 0 0, .slice none 0 0] 111)) := by
  refine ⟨(((Below.refl _ _).alloc (Nat.le_refl _) _).alloc (by simp) _).alloc (by simp; omega) _, rfl, by simp, ?_, ?_, ?_, ?_, ?_, ?_, ?_, fun o h1 h2 => ?_, fun o => ?_⟩
  iterate 3
    rw [World.cell?_alloc_lt _ _ _ (by simp; omega), World.cell?_alloc_lt _ _ _ (by simp), World.cell?_alloc_at _ _ _ _ rfl]; rfl
  iterate 3
    rw [World.cell?_alloc_lt _ _ _ (by simp), World.cell?_alloc_at _ _ _ _ (by simp)]; rfl
  · rw [World.cell?_alloc_at _ _ _ _ (by simp)]; rfl
  · rw [World.cell?_alloc_at _ _ _ _ (by simp)]
    have : o = 1 ∨ o = 2 ∨ o = 3 ∨ o = 4 ∨ o = 5 := by omega
    rcases this with rfl | rfl | rfl | rfl | rfl <;> rfl
  · rw [World.frozen?_alloc_at _ _ _ _ (by simp)]

theorem Touch.base {g po B : Nat} {w w' : World} (h : Touch g po (fun _ => False) w w') (h1 : B ≤ g) (h2 : B ≤ w.heap.size) : Below B w w' := ⟨h.os, h.tape, h.output, h.size, fun b hb => h.block b (by omega) (by omega) fun h => h⟩
theorem Flat.beside {w w' : World} {D g po po' : Nat} {O : Nat → Prop} {F : FV} {ts : List (Int × Int × Fo)} {rows : List (List Int)} (h : Flat w D g po O F ts rows) (ht : Touch g po' (fun _ => False) w w') (h1 : po + 1 < po' ∨ po' + 1 < po) : Flat w' D g po O F ts rows := by
  have hgD := h.gD
  have hbig := h.big
  refine h.frame ht.size (fun b hb => ht.block b ?_ ?_ fun h => h) (ht.cell po (by omega) (by omega)) (ht.cell (po + 1) (by omega) (by omega)) (ht.free po) (ht.free (po + 1))
  · rcases hb with hb | hb
    · omega
    · exact (h.Ob b hb).2
  · rcases hb with hb | hb
    · omega
    · have := (h.Ob b hb).1; omega
theorem seen2 {w : World} {g : Nat} {x y : Value} (h0 : w.cell? ⟨g, 5, none⟩ = some x) (h1 : w.cell? ⟨g, 3, none⟩ = some y) : ∃ u : SeenC (cells2 g x y), w = u.world := ⟨⟨w, fun q hq => by
  simp only [cells2, List.mem_cons, List.not_mem_nil, or_false] at hq
  rcases hq with rfl | rfl
  · exact h0
  · exact h1⟩, rfl⟩
theorem kv_zero {n m a b : Nat} : kv (List.replicate n (List.replicate m 0)) a b = 0 := by
  unfold kv
  simp only [List.getD_eq_getElem?_getD, List.getElem?_replicate]
  by_cases h : a < n <;> by_cases h' : b < m <;> simp [h, h']

/-- The whole look, all of it known to be unknown. -/
theorem look_all {w w1 w3 wr : World} {xs : List Int} {A : Option Addr} {C : Nat} {s v : Int} {y : Value} {s' v' : Int} {y' : Value} {g : Nat} {O1 O2 : Nat → Prop} {F1 F2 : FV} {ts1 ts2 : List (Int × Int × Fo)} {rows1 rows2 : List (List Int)} {A' : Option Addr} {C' : Nat}
    (h1 : L3 w (.slice A xs.length C) s v y s' v' y' g w1) (hr : ISl w 0 w.heap.size A xs) (hrk : rkOk xs = true) (g0 : w3.cell? ⟨g, 0, none⟩ = w1.cell? ⟨g, 0, none⟩) (hbw : ∀ b, b < w1.heap.size → b ≠ g → w3.heap[b]? = w1.heap[b]?)
    (hf1 : Flat w3 (g + 1) g 1 O1 F1 ts1 rows1) (hr1 : rows1.length = ts1.length) (hk1 : ∀ i, i < ts1.length → KidsAt ts1 rows1 i) (hn1 : ts1.length ≤ 100)
    (hf2 : Flat w3 (g + 1) g 3 O2 F2 ts2 rows2) (hr2 : rows2.length = ts2.length) (hk2 : ∀ i, i < ts2.length → KidsAt ts2 rows2 i) (hn2 : ts2.length ≤ 100)
    (hkn : KnAt w3.heap.size g ts2.length w3 ts1.length A' C' wr) :
    ∃ L : Look, L.B = w3.heap.size ∧ L.g = g ∧ L.n = ts1.length ∧ L.m = ts2.length ∧ L.S = tsS ts1 ∧ L.T = tsS ts2 ∧ L.xs = xs ∧ LookAt L wr ∧ ∀ z, Kn L z (List.replicate ts1.length (List.replicate ts2.length 0)) wr := by
  obtain ⟨vs, lo, hi, hrf⟩ := hkn.own
  have hgs : g < w3.heap.size := Nat.lt_of_lt_of_le hf1.gD hf1.big
  have hts := hkn.touch.size
  have hl : (List.replicate ts1.length (List.replicate ts2.length (0 : Int))).length = ts1.length := by simp
  have e1 := hf1.beside hkn.touch (.inl (by omega))
  have e2 := hf2.beside hkn.touch (.inl (by omega))
  have hgE := h1.gE
  have hws := h1.size
  refine ⟨⟨w3.heap.size, g, xs, A, C, F1.A, F1.K, F1.CA, F1.CK, ts1.length, tsS ts1, rows1, F2.A, F2.K, F2.CA, F2.CK, ts2.length, tsS ts2, rows2, A', C', vs, lo, hi, wr.heap.size⟩, rfl, rfl, rfl, rfl, rfl, rfl, rfl, ?_, fun z => ?_⟩
  · refine ⟨hgs, hts, Nat.le_refl _, hts, fun i hi' => ?_, ?_, e1.cA, ?_, e2.cA, ?_, hkn.c5, ?_, hrk, e1.tab hr1 hk1 (fun b hb => (hf1.Ob b hb).2) (Nat.le_of_lt hgs), e2.tab hr2 hk2 (fun b hb => (hf2.Ob b hb).2) (Nat.le_of_lt hgs), hn1, hn2⟩
    · obtain ⟨_, _, _, _, _, h2, _⟩ := hrf.at_ i (List.replicate ts2.length 0) (by simp [List.getElem?_replicate]; exact hi')
      exact h2
    · exact (hkn.touch.cell 0 (by omega) (by omega)).trans (g0.trans h1.g0)
    · have := e1.cK; rw [hr1] at this; exact this
    · have := e2.cK; rw [hr2] at this; exact this
    · exact ((hr.below h1.low).same fun b _ hb => by rw [hkn.touch.block b (by omega) (by omega) (fun h => h), hbw b (by omega) (by omega)]).mono (Nat.le_refl _) (by dsimp only; omega)
  · refine ⟨hrf, hl, fun a r hr' => ?_, fun a b _ _ _ => .inl kv_zero⟩
    rw [List.getElem?_replicate] at hr'
    split at hr'
    · obtain rfl := Option.some.inj hr'; simp
    · cases hr'

set_option maxRecDepth 100000 in
set_option maxHeartbeats 2000000 in
theorem l3More_any (xs : List Int) (A : Option Addr) (C : Nat) (s v : Int) (a : Option Addr) (c : Nat) (k : Fo) (s' v' : Int) (a' : Option Addr) (c' : Nat) (k' : Fo) (w : World) (hr : ISl w 0 w.heap.size A xs) (hl : Sl w 0 w.heap.size a k) (hl' : Sl w 0 w.heap.size a' k') (hrk : rkOk xs = true) (hok : okW s v k 16 = true) (hok' : okW s' v' k' 16 = true) :
    Calls Try.prog 43 #[.slice A xs.length C, .agg #[.int .i64 s, .int .i64 v, .slice a (flen k) c], .agg #[.int .i64 s', .int .i64 v', .slice a' (flen k') c']] w fun e w' => e = .returned (.bool (pB (Gt (rkN xs) (tmOf s v k) (tmOf s' v' k')))) ∧ Below w.heap.size w w' := by
  obtain ⟨ho, hf, hz⟩ := (okW_iff _ _ _ _).1 hok
  obtain ⟨ho', hf', hz'⟩ := (okW_iff _ _ _ _).1 hok'
  have HO := Lib.hid ho
  have HF := Lib.hid hf
  have HO' := Lib.hid ho'
  have HF' := Lib.hid hf'
  have hz16 : fsz k ≤ 15 := by omega
  have hz16' : fsz k' ≤ 15 := by omega
  have HRK := Lib.hid hrk
  have HR := Lib.hid hr
  have HL := Lib.hid hl
  have HL' := Lib.hid hl'
  clear ho hf ho' hf' hok hok' hrk hr hl hl' hz hz'
  have H1 := Lib.hid (l3_start w (.slice A xs.length C) s v (.slice a (flen k) c) s' v' (.slice a' (flen k') c'))
  go_enter Try.func43, Try.ntmps43
  go_wp2_with fail
  generalize (((w.alloc (.cells #[.int .i64 s, .int .i64 v, .slice a (flen k) c] 26)).alloc (.cells #[.int .i64 s', .int .i64 v', .slice a' (flen k') c'] 26)).alloc (.cells #[.slice A xs.length C, .slice none 0 0, .slice none 0 0, .slice none 0 0, .slice none 0 0, .slice none 0 0] 111)) = w1 at *
  generalize w.heap.size + 1 + 1 = g at *
  have hbx0 := H1.out.s0
  have hbx1 := H1.out.s1
  have hbx2 := H1.out.s2
  have hu0 : ∀ u : SeenC (cells3 w.heap.size s v (.slice a (flen k) c)), u.world.cell? ⟨w.heap.size, 0, none⟩ = some (.int .i64 s) := fun u => u.at_ (_, _) (by simp [cells3])
  have hu1 : ∀ u : SeenC (cells3 w.heap.size s v (.slice a (flen k) c)), u.world.cell? ⟨w.heap.size, 1, none⟩ = some (.int .i64 v) := fun u => u.at_ (_, _) (by simp [cells3])
  have hu2 : ∀ u : SeenC (cells3 w.heap.size s v (.slice a (flen k) c)), u.world.cell? ⟨w.heap.size, 2, none⟩ = some (.slice a (flen k) c) := fun u => u.at_ (_, _) (by simp [cells3])
  obtain ⟨u1, hu1w⟩ := seen3 (w := w1.drew) hbx0 hbx1 hbx2
  haveI : Nonempty (SeenC (cells3 w.heap.size s v (.slice a (flen k) c))) := ⟨u1⟩
  have HU : Hid (∃ u : SeenC (cells3 w.heap.size s v (.slice a (flen k) c)), w1.drew = u.world) := ⟨u1, hu1w⟩
  clear hbx0 hbx1 hbx2 hu1w
  refine wp_region_mix (fun w' => ∃ u : SeenC (cells3 w.heap.size s v (.slice a (flen k) c)), w' = u.world) [] [(0, 0), (1, 0), (2, 0), (3, 0), (4, 1)] (by kernel_rfl) (by kernel_rfl) HU.out ?_
  iterate 4
    refine mix_see rfl (fun K hK => ?_)
    go_simp
    refine hK _ ?_
    clear hK K
  clear hu0 hu1 hu2 HU u1
  refine mix_hold rfl (fun K hK => ?_)
  go_simp
  have hgs : g < w1.heap.size := by have h1 := H1.out.size; have h2 := H1.out.gE; omega
  have HFL := Lib.hid ((flat_start (po := 1) hgs (H1.out.gN 1 (by omega) (by omega)) (H1.out.gN 2 (by omega) (by omega)) (H1.out.gz 1) (H1.out.gz 2)).low (Below.refl _ _).drew)
  have HSL : Hid (Sl w1.drew 0 g a k) := ((HL.out.below H1.out.low).mono (Nat.le_refl _) (by have := H1.out.gE; omega)).below (Below.refl _ _).drew
  with_reducible refine (put_any (g + 1) g 1 (fsz k) s v a c k _ _ [] [] _ HFL.out rfl HSL.out HO.out HF.out (Nat.le_refl _) (by omega) (by simp; omega)).mono ?_
  rintro e w2 ⟨O1, F1, ts1, rows1, he, hF1, hT1', hO1, hl1, hr1, hp1, hq1, htop1, hkk1⟩
  obtain rfl : e = .returned (.int .i64 0) := he
  have HT1 := Lib.hid hT1'.undrew
  have HF1 := Lib.hid hF1
  have HL1 := Lib.hid hl1
  have HR1 := Lib.hid hr1
  have HTOP1 := Lib.hid htop1
  have HK1 := Lib.hid hkk1
  clear hT1' hF1 hl1 hr1 hp1 hq1 htop1 hkk1 hO1 HFL HSL
  have hbw : ∀ b, b < w1.heap.size → b ≠ g → w2.heap[b]? = w1.heap[b]? := fun b h1 h2 => HT1.out.block b h1 h2 (fun h => h)
  refine hK _ _ (seen3 ((World.cell?_of_block (a := ⟨w.heap.size, 0, none⟩) (hbw _ (by have := H1.out.size; simp only; omega) (by have := H1.out.gE; simp only; omega))).trans H1.out.s0) ((World.cell?_of_block (a := ⟨w.heap.size, 1, none⟩) (hbw _ (by have := H1.out.size; simp only; omega) (by have := H1.out.gE; simp only; omega))).trans H1.out.s1) ((World.cell?_of_block (a := ⟨w.heap.size, 2, none⟩) (hbw _ (by have := H1.out.size; simp only; omega) (by have := H1.out.gE; simp only; omega))).trans H1.out.s2)) ?_
  clear hK K
  refine mix_end ?_
  have hby0 : w2.cell? ⟨w.heap.size + 1, 0, none⟩ = some (.int .i64 s') := (World.cell?_of_block (a := ⟨w.heap.size + 1, 0, none⟩) (hbw _ (by have := H1.out.size; simp only; omega) (by have := H1.out.gE; simp only; omega))).trans H1.out.t0
  have hby1 : w2.cell? ⟨w.heap.size + 1, 1, none⟩ = some (.int .i64 v') := (World.cell?_of_block (a := ⟨w.heap.size + 1, 1, none⟩) (hbw _ (by have := H1.out.size; simp only; omega) (by have := H1.out.gE; simp only; omega))).trans H1.out.t1
  have hby2 : w2.cell? ⟨w.heap.size + 1, 2, none⟩ = some (.slice a' (flen k') c') := (World.cell?_of_block (a := ⟨w.heap.size + 1, 2, none⟩) (hbw _ (by have := H1.out.size; simp only; omega) (by have := H1.out.gE; simp only; omega))).trans H1.out.t2
  have HBW := Lib.hid hbw
  clear hbw
  go_wp2_with fail
  have hu0 : ∀ u : SeenC (cells3 (w.heap.size + 1) s' v' (.slice a' (flen k') c')), u.world.cell? ⟨w.heap.size + 1, 0, none⟩ = some (.int .i64 s') := fun u => u.at_ (_, _) (by simp [cells3])
  have hu1 : ∀ u : SeenC (cells3 (w.heap.size + 1) s' v' (.slice a' (flen k') c')), u.world.cell? ⟨w.heap.size + 1, 1, none⟩ = some (.int .i64 v') := fun u => u.at_ (_, _) (by simp [cells3])
  have hu2 : ∀ u : SeenC (cells3 (w.heap.size + 1) s' v' (.slice a' (flen k') c')), u.world.cell? ⟨w.heap.size + 1, 2, none⟩ = some (.slice a' (flen k') c') := fun u => u.at_ (_, _) (by simp [cells3])
  obtain ⟨u1, hu1w⟩ := seen3 (w := w2.drew) hby0 hby1 hby2
  haveI : Nonempty (SeenC (cells3 (w.heap.size + 1) s' v' (.slice a' (flen k') c'))) := ⟨u1⟩
  have HU : Hid (∃ u : SeenC (cells3 (w.heap.size + 1) s' v' (.slice a' (flen k') c')), w2.drew = u.world) := ⟨u1, hu1w⟩
  clear hby0 hby1 hby2 hu1w
  refine wp_region_mix (fun w' => ∃ u : SeenC (cells3 (w.heap.size + 1) s' v' (.slice a' (flen k') c')), w' = u.world) [] [(0, 0), (1, 0), (2, 0), (3, 0), (4, 1)] (by kernel_rfl) (by kernel_rfl) HU.out ?_
  iterate 4
    refine mix_see rfl (fun K hK => ?_)
    go_simp
    refine hK _ ?_
    clear hK K
  clear hu0 hu1 hu2 HU u1
  refine mix_hold rfl (fun K hK => ?_)
  go_simp
  have hgs2 : g < w2.heap.size := Nat.lt_of_lt_of_le hgs HT1.out.size
  have HFL := Lib.hid ((flat_start (po := 3) hgs2 ((HT1.out.cell 3 (by omega) (by omega)).trans (H1.out.gN 3 (by omega) (by omega))) ((HT1.out.cell 4 (by omega) (by omega)).trans (H1.out.gN 4 (by omega) (by omega))) ((HT1.out.free 3).trans (H1.out.gz 3)) ((HT1.out.free 4).trans (H1.out.gz 4))).low (Below.refl _ _).drew)
  have HSL : Hid (Sl w2.drew 0 g a' k') := (((HL'.out.below H1.out.low).mono (Nat.le_refl _) (by have := H1.out.gE; omega)).same fun b _ hb => HBW.out b (by omega) (by omega)).below (Below.refl _ _).drew
  with_reducible refine (put_any (g + 1) g 3 (fsz k') s' v' a' c' k' _ _ [] [] _ HFL.out rfl HSL.out HO'.out HF'.out (Nat.le_refl _) (by omega) (by simp; omega)).mono ?_
  rintro e w3 ⟨O2, F2, ts2, rows2, he, hF2, hT2', hO2, hl2, hr2, hp2, hq2, htop2, hkk2⟩
  obtain rfl : e = .returned (.int .i64 0) := he
  have HT2 := Lib.hid hT2'.undrew
  have HF2 := Lib.hid hF2
  have HL2 := Lib.hid hl2
  have HR2 := Lib.hid hr2
  have HTOP2 := Lib.hid htop2
  have HK2 := Lib.hid hkk2
  clear hT2' hF2 hl2 hr2 hp2 hq2 htop2 hkk2 hO2 HFL HSL
  have hbw : ∀ b, b < w1.heap.size → b ≠ g → w3.heap[b]? = w1.heap[b]? := fun b h1 h2 => (HT2.out.block b (Nat.lt_of_lt_of_le h1 HT1.out.size) h2 (fun h => h)).trans (HBW.out b h1 h2)
  refine hK _ _ (seen3 ((World.cell?_of_block (a := ⟨w.heap.size + 1, 0, none⟩) (hbw _ (by have := H1.out.size; simp only; omega) (by have := H1.out.gE; simp only; omega))).trans H1.out.t0) ((World.cell?_of_block (a := ⟨w.heap.size + 1, 1, none⟩) (hbw _ (by have := H1.out.size; simp only; omega) (by have := H1.out.gE; simp only; omega))).trans H1.out.t1) ((World.cell?_of_block (a := ⟨w.heap.size + 1, 2, none⟩) (hbw _ (by have := H1.out.size; simp only; omega) (by have := H1.out.gE; simp only; omega))).trans H1.out.t2)) ?_
  clear hK K
  refine mix_end ?_
  have HBW3 := Lib.hid hbw
  clear hbw
  go_wp2_with fail
  have HF13 := Lib.hid (HF1.out.beside HT2.out (.inl (by omega)))
  have hn1 : ts1.length ≤ 16 := by have := HL1.out; simp at this; omega
  have hn2 : ts2.length ≤ 16 := by have := HL2.out; simp at this; omega
  have h1pos : 0 < ts1.length := (List.getElem?_eq_some_iff.1 HTOP1.out).1
  have h2pos : 0 < ts2.length := (List.getElem?_eq_some_iff.1 HTOP2.out).1
  have hgs3 : g < w3.heap.size := Nat.lt_of_lt_of_le hgs2 HT2.out.size
  obtain ⟨tj, htj, htjz, htjs, htjb⟩ := Try.infoIS
  have HTJ : Hid (Try.prog.info? 23 = some tj ∧ tj.zero = some (.slice none 0 0) ∧ tj.size = 1 ∧ tj.bytes = 24) := ⟨htj, htjz, htjs, htjb⟩
  clear htj htjz htjs htjb
  have hmk := run_make_row' (P := Try.prog) 23 3 (.int .i64 0) 8 Try.underlying23 (by kernel_rfl) rfl .i64 .i64 ts2.length (by omega) (by omega)
  go_loopw [8] (fun i wr => ∃ (j : Nat) (A' : Option Addr) (C' : Nat), i = .int .i64 j ∧ j ≤ ts1.length ∧ Hid (KnAt w3.heap.size g ts2.length w3 j A' C' wr)) (fun i _ => ts1.length - (intOf i).toNat)
  case atStart => exact ⟨0, none, 0, rfl, Nat.zero_le _, KnAt.start ((HT2.out.cell 5 (by omega) (by omega)).trans ((HT1.out.cell 5 (by omega) (by omega)).trans (H1.out.gN 5 (by omega) (by omega))))⟩
  case round =>
    obtain ⟨j, A', C', rfl, hj, hat⟩ := hrel
    have hc1 : wr.cell? ⟨g, 1, none⟩ = some (.slice F1.A ts1.length F1.CA) := (hat.out.touch.cell 1 (by omega) (by omega)).trans HF13.out.cA
    have hts := hat.out.touch.size
    by_cases hlt : j < ts1.length
    · have hc3 : wr.cell? ⟨g, 3, none⟩ = some (.slice F2.A ts2.length F2.CA) := (hat.out.touch.cell 3 (by omega) (by omega)).trans HF2.out.cA
      have hc5 := hat.out.c5
      have hgz : wr.frozen? ⟨g, 5, none⟩ = false := (hat.out.touch.free 5).trans ((HT2.out.free 5).trans ((HT1.out.free 5).trans (H1.out.gz 5)))
      obtain ⟨vs, lo, hi, hrf⟩ := hat.out.own
      have hown := hrf.own
      rw [show (List.replicate j (List.replicate ts2.length (0 : Int))).length = j from by simp] at hown
      have HOWN := Lib.hid hown
      have HRF := Lib.hid hrf
      have hgA : (Value.slice A' j C').ownBlock ≠ some g := fun e => by have := (hown.lt g e).1; omega
      clear hown hrf
      have g2 : (j : Int) < (ts1.length : Int) := by omega
      have hu0 : ∀ u : SeenC (cells2 g (.slice A' j C') (.slice F2.A ts2.length F2.CA)), u.world.cell? ⟨g, 5, none⟩ = some (.slice A' j C') := fun u => u.at_ (_, _) (by simp [cells2])
      have hu1 : ∀ u : SeenC (cells2 g (.slice A' j C') (.slice F2.A ts2.length F2.CA)), u.world.cell? ⟨g, 3, none⟩ = some (.slice F2.A ts2.length F2.CA) := fun u => u.at_ (_, _) (by simp [cells2])
      have HSEE : Hid (∀ w4 : World, w4.heap[g]? = wr.heap[g]? → ∃ u : SeenC (cells2 g (.slice A' j C') (.slice F2.A ts2.length F2.CA)), w4 = u.world) := fun w4 h4 => seen2 ((World.cell?_of_block (a := ⟨g, 5, none⟩) h4).trans hc5) ((World.cell?_of_block (a := ⟨g, 3, none⟩) h4).trans hc3)
      haveI : Nonempty (SeenC (cells2 g (.slice A' j C') (.slice F2.A ts2.length F2.CA))) := ⟨(HSEE.out wr rfl).choose⟩
      have hgr : g < wr.heap.size := by omega
      go_wp2_with fail
      clear hc3 hc1
      have HC5 := Lib.hid hc5
      clear hc5
      refine wp_region_mix (fun w' => ∃ u : SeenC (cells2 g (.slice A' j C') (.slice F2.A ts2.length F2.CA)), w' = u.world) [16] [(0, 0), (1, 0), (2, 0), (3, 0), (4, 0), (5, 0), (6, 0), (7, 0), (8, 0), (9, 0), (10, 0), (11, 1), (12, 1), (13, 1), (14, 1), (15, 1), (16, 2)] (by kernel_rfl) (by kernel_rfl) (HSEE.out _ rfl) ?_
      iterate 11
        refine mix_see rfl (fun K hK => ?_)
        go_simp
        refine hK _ ?_
        clear hK K
      clear hu0 hu1
      refine mix_hold rfl (fun K hK => ?_)
      go_simp
      refine hK _ _ (HSEE.out _ (Below.heap_alloc _ _ _ hgr)) ?_
      clear hK K
      refine mix_hold rfl (fun K hK => ?_)
      go_simp
      have hbw : Below wr.heap.size wr ((wr.alloc (.cells (madeCells #[.int .i64 0] ts2.length) 3)).alloc (.cells #[.slice (some ⟨wr.heap.size, 0, none⟩) ts2.length ts2.length] 23)).drew := (((Below.refl _ _).alloc (Nat.le_refl _) _).alloc (by simp) _).drew
      refine hK _ _ (HSEE.out _ (hbw.block g hgr)) ?_
      clear hK K
      refine mix_hold rfl (fun K hK => ?_)
      have HNB : Hid (((wr.alloc (.cells (madeCells #[.int .i64 0] ts2.length) 3)).alloc (.cells #[.slice (some ⟨wr.heap.size, 0, none⟩) ts2.length ts2.length] 23)).heap[wr.heap.size + 1]? = some (.cells #[.slice (some ⟨wr.heap.size, 0, none⟩) ts2.length ts2.length] 23 (0, 0))) := by
        have := heap_alloc_new (wr.alloc (.cells (madeCells #[.int .i64 0] ts2.length) 3)) (.cells #[.slice (some ⟨wr.heap.size, 0, none⟩) ts2.length ts2.length] 23)
        unfold Hid
        simpa using this
      refine step_append_lies _ (by rfl) _ _ _ (by rfl) w3.heap.size 23 tj _ 1 24 Try.underlying42 HTJ.out.1 HTJ.out.2.1 HTJ.out.2.2.1 HTJ.out.2.2.2 rfl (by omega) (.slice A' j C') j vs (by rfl) (own_low hbw HOWN.out) ⟨wr.heap.size + 1, 0, none⟩ 1 1 [.slice (some ⟨wr.heap.size, 0, none⟩) ts2.length ts2.length] (by rfl) (by rfl) (World.news_of_block (w := ((wr.alloc (.cells (madeCells #[.int .i64 0] ts2.length) 3)).alloc (.cells #[.slice (some ⟨wr.heap.size, 0, none⟩) ts2.length ts2.length] 23)).drew) HNB.out) (by simp [Value.oneCell']) (by omega) (by unfold maxLen; omega) (by omega) (by simp; omega) (wr.heap.size + 2) (by simp) ?_
      intro q cap w4 hown4 hgrow hatg hg4
      have hgb : w4.heap[g]? = wr.heap[g]? := by rw [hgrow.block g (by have := hbw.size; omega) (fun e => hgA e.symm), hbw.block g hgr]
      have hz5 : w4.cell? ⟨g, 5, none⟩ = some (.slice A' j C') := (World.cell?_of_block (a := ⟨g, 5, none⟩) hgb).trans HC5.out
      have hy5 : w4.frozen? ⟨g, 5, none⟩ = false := (World.frozen?_of_block (a := ⟨g, 5, none⟩) hgb).trans hgz
      have HSTEP := Lib.hid (KnAt.step (A' := some ⟨q, 0, none⟩) (C' := cap) hat.out hgs3 rfl (by omega) HRF.out rfl hown4 hgrow (hatg.imp id (fun e => by rw [e]; rfl)))
      have HS4 := Lib.hid (HSEE.out w4 hgb)
      refine hK _ _ HS4.out ?_
      clear hK K hown4 hgrow hatg hgb hat
      refine mix_hold rfl (fun K hK => ?_)
      go_simp
      refine hK _ _ HS4.out ?_
      clear hK K
      refine mix_hold rfl (fun K hK => ?_)
      go_simp
      refine hK _ _ HS4.out ?_
      clear hK K
      refine mix_late rfl (fun K hK => ?_)
      go_simp
      refine hK _ _ ?_
      clear hK K
      refine mix_end ?_
      clear hz5 hy5 hgz
      go_wp2_with fail
      go_roundw
      case rel =>
        exact ⟨j + 1, some ⟨q, 0, none⟩, cap, by go_num, by omega, HSTEP⟩
      case measure => simp [intOf]; omega
    · have hjn : j = ts1.length := by omega
      subst hjn
      obtain ⟨L, hLB, hLg, hLn, hLm, hLS, hLT, hLx, hlk, hkn⟩ := look_all H1.out HR.out HRK.out ((HT2.out.cell 0 (by omega) (by omega)).trans (HT1.out.cell 0 (by omega) (by omega))) HBW3.out HF13.out HR1.out (fun i hi => HK1.out i (Nat.zero_le _) hi) (by omega) HF2.out HR2.out (fun i hi => HK2.out i (Nat.zero_le _) hi) (by omega) hat.out
      have HC : Hid (Calls Try.prog 74 #[.pointer (some ⟨L.g, 0, none⟩), .int .i64 0, .int .i64 0] wr (LkPost L (L.sz 0 0 + 1) (List.replicate ts1.length (List.replicate ts2.length 0)) (L.gt 0 0) wr)) := moreS_any (moreS_all L (L.sz 0 0 + 1)) 0 0 _ wr (by omega) (by omega) (Nat.lt_succ_self _) hlk (hkn _)
      rw [hLg] at HC
      have HG : Hid (L.gt 0 0 = pB (Gt (rkN xs) (tmOf s v k) (tmOf s' v' k'))) := by
        unfold Hid Look.gt
        rw [hLS, hLT, hLx, tsS_of (show ts1[0]? = some (s, v, k) from HTOP1.out), tsS_of (show ts2[0]? = some (s', v', k') from HTOP2.out)]
        rfl
      have HBL : Hid (Below w.heap.size w wr) := by
        have e1 := H1.out.gE
        have e2 := H1.out.size
        have e3 := HT1.out.size
        have e4 := HT2.out.size
        exact ((H1.out.low.trans (HT1.out.base (by omega) (by omega))).trans (HT2.out.base (by omega) (by omega))).trans (hat.out.touch.base (by omega) (by omega))
      have hLB2 : w.heap.size ≤ L.B := by have e1 := H1.out.gE; omega
      clear hat hlk hkn
      go_wp2_with fail
      with_reducible refine HC.out.mono ?_
      rintro e w9 ⟨rows9, rfl, hfar, _, _⟩
      have HB9 := Lib.hid (HBL.out.trans (hfar.low.mono hLB2))
      clear hfar hc1
      go_wp2_with fail
      go_ret
      exact ⟨by rw [HG.out]; rfl, HB9.out⟩
end Go.Proofs.Ytcpibiahojpjiaa

/-! OK2: OrderOk of the specification. -/
namespace Go.Proofs.Ytcpibiahojpjiaa
open Go.RowKit Go.Deep

/-- What is known of the first j numbers. -/
def RkUp (xs : List Int) (j : Nat) : Prop := (∀ (i : Nat) (x : Int), i < j → xs[i]? = some x → 1 ≤ x ∧ x ≤ 4) ∧ ∀ (i k : Nat) (x y : Int), i < j → k < i → xs[k]? = some x → xs[i]? = some y → x ≠ y
def RkNe (xs : List Int) (j k : Nat) : Prop := ∀ (q : Nat) (x y : Int), q < k → xs[q]? = some x → xs[j]? = some y → x ≠ y
theorem RkUp.next {xs : List Int} {j : Nat} {z : Int} (h : RkUp xs j) (hz : xs[j]? = some z) (h1 : 1 ≤ z ∧ z ≤ 4) (hn : RkNe xs j j) : RkUp xs (j + 1) := by
  refine ⟨fun i x hi hx => ?_, fun i k x y hi hk hx hy => ?_⟩
  · by_cases e : i = j
    · subst e; rw [hz] at hx; obtain rfl := Option.some.inj hx; exact h1
    · exact h.1 i x (by omega) hx
  · by_cases e : i = j
    · subst e; exact hn k x y hk hx hy
    · exact h.2 i k x y (by omega) hk hx hy
theorem RkUp.all {xs : List Int} (h4 : xs.length = 4) (h : RkUp xs 4) : rkOk xs = true := by
  refine (rk_iff h4).2 ⟨fun i x hx => h.1 i x ?_ hx, fun i k x y hk hx hy => h.2 i k x y ?_ hk hx hy⟩
  · have := (List.getElem?_eq_some_iff.1 hx).1; omega
  · have := (List.getElem?_eq_some_iff.1 hy).1; omega
theorem RkNe.next {xs : List Int} {j k : Nat} {x y : Int} (h : RkNe xs j k) (hx : xs[k]? = some x) (hy : xs[j]? = some y) (hne : x ≠ y) : RkNe xs j (k + 1) := fun q x' y' hq h1 h2 => by
  by_cases e : q = k
  · subst e; rw [hx] at h1; rw [hy] at h2; obtain rfl := Option.some.inj h1; obtain rfl := Option.some.inj h2; exact hne
  · exact h q x' y' (by omega) h1 h2
theorem rk_out {xs : List Int} {j : Nat} {z : Int} (h4 : xs.length = 4) (hz : xs[j]? = some z) (h : ¬(1 ≤ z ∧ z ≤ 4)) : rkOk xs = false := by
  cases hr : rkOk xs with
  | false => rfl
  | true => exact absurd (((rk_iff h4).1 hr).1 j z hz) h
theorem rk_two {xs : List Int} {j k : Nat} {x y : Int} (h4 : xs.length = 4) (hk : k < j) (hx : xs[k]? = some x) (hy : xs[j]? = some y) (h : x = y) : rkOk xs = false := by
  cases hr : rkOk xs with
  | false => rfl
  | true => exact absurd h (((rk_iff h4).1 hr).2 j k x y hk hx hy)

set_option maxRecDepth 100000 in
set_option maxHeartbeats 2000000 in
theorem sOrderOk_any (xs : List Int) (A : Option Addr) (C : Nat) (w : World) (h : ISl w 0 w.heap.size A xs) :
    Calls Try.prog 16 #[.slice A xs.length C] w fun e w' => e = .returned (.bool (rkOk xs)) ∧ Below w.heap.size w w' := by
  by_cases h4 : xs.length = 4
  · have HI := Lib.hid h
    have e4 : ((xs.length : Int) != 4) = false := by simp [h4]
    have H4 := Lib.hid h4
    have h4' : (xs.length : Int) = 4 := by omega
    clear h h4
    go_enter Try.func16, Try.ntmps16
    go_wp2_with fail
    go_loopw [3] (fun i wr => ∃ j : Nat, i = .int .i64 j ∧ j ≤ 4 ∧ Hid (RkUp xs j) ∧ Below w.heap.size w wr) (fun i _ => 4 - (intOf i).toNat)
    case atStart => exact ⟨0, rfl, by omega, ⟨fun i x hi => by omega, fun i k x y hi => by omega⟩, Below.refl _ _⟩
    case round =>
      obtain ⟨j, rfl, hj, hup, hbl⟩ := hrel
      by_cases hlt : j < 4
      · have hlt' : j < xs.length := by have := H4.out; omega
        obtain ⟨b, o, rfl, _, hb1, hc⟩ := isl_at (HI.out.below hbl) hlt'
        have HZ : Hid (xs[j]? = some xs[j]) := List.getElem?_eq_getElem hlt'
        generalize xs[j] = z at hc HZ
        have g1 : (0 : Int) ≤ (j : Int) := by omega
        have g2 : (j : Int) < (xs.length : Int) := by omega
        have hbs := hbl.size
        have HBL := Lib.hid hbl
        clear hbl hlt'
        by_cases hr : 1 ≤ z ∧ z ≤ 4
        · have HR := Lib.hid hr
          have ht : Hid (decide (1 ≤ z ∧ z ≤ 4) = true) := decide_eq_true hr
          clear hr
          go_wp2_with (go_at_call 44; refine (l6In_is ht.out).mono ?_; rintro e w' ⟨rfl, rfl⟩)
          go_loopw [4] (fun i wi => ∃ k : Nat, i = .int .i64 k ∧ k ≤ j ∧ Hid (RkNe xs j k) ∧ Below w.heap.size w wi) (fun i _ => j - (intOf i).toNat)
          case atStart => exact ⟨0, rfl, by omega, fun q x y hq => by omega, HBL.out⟩
          case round =>
            obtain ⟨k, rfl, hk, hne, hbi⟩ := hrel
            have hbis := hbi.size
            by_cases hkj : k < j
            · have hk' : k < xs.length := by have := H4.out; omega
              have hj' : j < xs.length := by have := H4.out; omega
              obtain ⟨b', o', e', _, _, hck⟩ := isl_at (HI.out.below hbi) hk'
              obtain ⟨b2, o2, e2, _, _, hcj⟩ := isl_at (HI.out.below hbi) hj'
              obtain ⟨rfl, rfl, _⟩ : b = b' ∧ o = o' ∧ True := by simpa using e'
              obtain ⟨rfl, rfl, _⟩ : b = b2 ∧ o = o2 ∧ True := by simpa using e2
              have HX : Hid (xs[k]? = some xs[k]) := List.getElem?_eq_getElem hk'
              have hzj : xs[j] = z := by have := HZ.out; rw [List.getElem?_eq_getElem hj'] at this; exact Option.some.inj this
              rw [hzj] at hcj
              generalize xs[k] = x at hck HX
              have g3 : (0 : Int) ≤ (k : Int) := by omega
              have g4 : (k : Int) < (xs.length : Int) := by omega
              have hu0 : ∀ u : After wr.heap.size wr, u.world.cell? ⟨b, o + k, none⟩ = some (.int .i64 x) := fun u => u.cell (by simp; omega) hck
              have hu1 : ∀ u : After wr.heap.size wr, u.world.cell? ⟨b, o + j, none⟩ = some (.int .i64 z) := fun u => u.cell (by simp; omega) hcj
              have HBI := Lib.hid hbi
              clear hbi hzj hk' hj' e' e2
              by_cases hxz : x = z
              · have HF : Hid (rkOk xs = false) := rk_two H4.out hkj HX.out HZ.out hxz
                have ex : (x == z) = true := by simp [hxz]
                clear hxz hne
                go_wp2_with fail
                refine wp_region_after wr.heap.size (by kernel_rfl) (by kernel_rfl) ?_
                repeat (go_big_quiet_step (fail))
                refine wpQuiet_nil ?_
                rintro u ⟨⟨_, hu⟩, rfl⟩
                have HB2 := Lib.hid (HBI.out.trans (hu.mono hbis))
                clear hu0 hu1 hck hcj hu hc
                go_wp2_with fail
                go_ret
                exact ⟨by rw [HF.out]; rfl, HB2.out⟩
              · have HNE : Hid (RkNe xs j (k + 1)) := hne.out.next HX.out HZ.out hxz
                have ex : (x == z) = false := by simp [hxz]
                clear hxz hne
                go_wp2_with fail
                refine wp_region_after wr.heap.size (by kernel_rfl) (by kernel_rfl) ?_
                repeat (go_big_quiet_step (fail))
                refine wpQuiet_nil ?_
                rintro u ⟨⟨_, hu⟩, rfl⟩
                have HB2 := Lib.hid (HBI.out.trans (hu.mono hbis))
                clear hu0 hu1 hck hcj hu hc
                go_wp2_with fail
                go_roundw
                case rel => exact ⟨k + 1, by go_num, by omega, HNE, HB2.out⟩
                case measure => simp [intOf]; omega
            · have hkj' : k = j := by omega
              subst hkj'
              have HUP : Hid (RkUp xs (k + 1)) := hup.out.next HZ.out HR.out hne.out
              have HBI := Lib.hid hbi
              clear hup hne hbi hc
              go_wp2_with fail
              go_roundw
              case rel => exact ⟨k + 1, by go_num, by omega, HUP, HBI.out⟩
              case measure => simp [intOf]; omega
        · have HF : Hid (rkOk xs = false) := rk_out H4.out HZ.out hr
          have ht : Hid (decide (1 ≤ z ∧ z ≤ 4) = false) := decide_eq_false hr
          clear hr
          go_wp2_with (go_at_call 44; refine (l6In_is ht.out).mono ?_; rintro e w' ⟨rfl, rfl⟩)
          go_ret
          exact ⟨by rw [HF.out]; rfl, HBL.out⟩
      · have hj4 : j = 4 := by omega
        subst hj4
        have HT : Hid (rkOk xs = true) := hup.out.all H4.out
        clear hup
        go_wp2_with fail
        go_ret
        exact ⟨by rw [HT.out]; rfl, hbl⟩
  · have e4 : ((xs.length : Int) != 4) = true := by simp; omega
    have HN : Hid (rkOk xs = false) := rk_no h4
    clear h h4
    go_enter Try.func16, Try.ntmps16
    go_wp2_with fail
    go_ret
    exact ⟨by rw [HN.out]; rfl, Below.refl _ _⟩
end Go.Proofs.Ytcpibiahojpjiaa

/-! UM: A method called on an interface value. -/
namespace Go.Proofs.Ytcpibiahojpjiaa
open Go.RowKit Go.Deep

/-- A method called on an interface value whose method is known. -/
theorem upon_method {P : Program} {o : Oper} {a : Act} {K : Act → World → Prop} {Q : Exit → Act → World → Prop} {n : Nat} {t : TypeId} {v : Value} {nm : String} {w : World} (f : FuncId) (h : (method n t v nm).run P w = .ok (f, v) w)
    (h1 : (callFunc f #[v]).run P w = .ok (.enter f #[v]) w) (h2 : o.upon P a K Q (.ok (.enter f #[v]) w)) : o.upon P a K Q (((method n t v nm).run P w).andThen fun x w' => (callFunc x.1 #[x.2]).run P w') := by
  rw [h]
  show o.upon P a K Q ((callFunc f #[v]).run P w)
  rw [h1]
  exact h2
end Go.Proofs.Ytcpibiahojpjiaa

/-! T1: The text of a node, and TermText of the program. -/
namespace Go.Proofs
open Go.Shelf
shelf_lay Lays.n171 Nm 171 at Try as Try.lays171
shelf_lay Lays.n156 Nm 156 at Try as Try.lays156
theorem Try.builderExtra156 : Builder.Extra Try.prog Try.lays156_ren where
  sizeBuilder := by kernel_rfl
  liesBuilder := by kernel_rfl
  t5 := Try.underlying5
  a5 := Try.isAgg5
  z5 := Try.sizeOf5
  v5 := Try.zeroValue5
  infoByte := by kernel_rfl
  cellsByte := by kernel_rfl
  sizeByte := by kernel_rfl
  neB5 := by decide
end Go.Proofs

namespace Go.Proofs.Ytcpibiahojpjiaa
open Go.RowKit Go.Deep

theorem itoa_any (v : Int) (h0 : 0 ≤ v) (h1 : v < 100) (w : World) :
    Calls Try.prog 128 #[.int .i64 v] w fun e w' => e = .returned (.string (str (Lib.decDigits v.toNat))) ∧ w' = w := by
  obtain ⟨n, rfl⟩ := Int.eq_ofNat_of_zero_le h0
  exact Any.strconv_Itoa_small Try.lays171 n (by omega) w

set_option maxHeartbeats 400000 in
theorem varText_any (v : Int) (h0 : 0 ≤ v) (h1 : v < 100) (w : World) :
    Calls Try.prog 127 #[.int .i64 v] w fun e w' => e = .returned (.string (str (120 :: Lib.decDigits v.toNat))) ∧ w' = w := by
  have hz : (str (Lib.decDigits v.toNat)).size ≤ 2 := by rw [str_size]; exact dec_len (by omega)
  go_enter Try.func127, Try.ntmps127
  go_wp2_with fail
  with_reducible refine (itoa_any v h0 h1 _).mono ?_
  rintro e w2 ⟨rfl, rfl⟩
  go_wp2_with fail
  go_ret
  exact ⟨by rw [show (120 :: Lib.decDigits v.toNat) = [120] ++ Lib.decDigits v.toNat from rfl, ← str_add]; rfl, rfl⟩

theorem join_any (ks : List (List UInt8)) (bk n c : Nat) (w : World) (hnk : n = ks.length) (hcells : ∀ (j : Nat) l, ks[j]? = some l → w.cell? ⟨bk, j, none⟩ = some (.string (str l))) (hbk : bk < w.heap.size) (hn : ks.length ≤ 1000) (hc : ks.length ≤ c) (hl : lens ks ≤ 1000000) :
    Calls Try.prog 144 #[.slice (some ⟨bk, 0, none⟩) n c, .string ⟨#[44]⟩] w fun e w' => e = .returned (.string (str (Lib.join ks [44]))) ∧ Below w.heap.size w w' := by
  subst hnk
  have hm : (ks.map str).map (·.data.toList) = ks := by
    rw [List.map_map]
    exact (List.map_congr_left fun x _ => by simp [str]).trans (List.map_id ks)
  have hj := join_len ks
  have := Any.strings_Join Try.lays156 Try.builderExtra156 bk 0 c (ks.map str) ⟨#[44]⟩ w (fun j x hx => by
    rw [List.getElem?_map] at hx
    cases hk : ks[j]? with
    | none => rw [hk] at hx; cases hx
    | some l => rw [hk] at hx; obtain rfl := Option.some.inj hx; rw [Nat.zero_add]; exact hcells j l hk) hbk (by rw [List.length_map]; omega) (by rw [List.length_map]; exact hc) (by rw [hm]; show (Lib.join ks [44]).length ≤ _; omega)
  rw [hm, List.length_map] at this
  exact this

theorem Try.infoS : ∃ i, Try.prog.info? 9 = some i ∧ i.zero = some (.string ⟨#[]⟩) ∧ i.size = 1 ∧ i.bytes = 16 := by
  have h : (Try.prog.info? 9).map (fun i => (i.zero, i.size, i.bytes)) = some (some (.string ⟨#[]⟩), 1, 16) := by kernel_rfl
  obtain ⟨i, hi, hz⟩ := Option.map_eq_some_iff.1 h
  simp only [Prod.mk.injEq] at hz
  exact ⟨i, hi, hz.1, hz.2.1, hz.2.2⟩
theorem make_strs (n : Nat) (hn : n ≤ 1048576) (w : World) :
    (Instr.makeSlice 179 (.int .i64 (n : Int)) (.int .i64 (n : Int))).run Try.prog w = .ok (.slice (some ⟨w.heap.size, 0, none⟩) n n) (w.alloc (.cells (madeCells #[.string ⟨#[]⟩] n) 9)) := by
  obtain ⟨i, hi, hz, hs, hb⟩ := Try.infoS
  have := run_make (P := Try.prog) w 179 9 i _ Try.underlying179 hi hz .i64 .i64 (n : Int) (n : Int) (by omega) (by omega) (by rw [hb]; omega) (by omega)
  rw [hs] at this
  simpa [Value.cells] using this
theorem strs_made (w : World) (n : Nat) (hn : n ≤ 1048576) : (w.alloc (.cells (madeCells #[.string ⟨#[]⟩] n) 9)).ownsRow w.heap.size 9 1 (.slice (some ⟨w.heap.size, 0, none⟩) n n) n ((List.replicate n []).map fun l => Value.string (str l)) := by
  refine ⟨by simp, .inr ⟨w.heap.size, n, madeCells #[.string ⟨#[]⟩] n, rfl, Nat.le_refl _, heap_alloc_new _ _, Nat.le_refl _, by unfold maxLen; omega, by simp [size_madeCells], ?_⟩⟩
  rw [toList_madeCells_one, List.map_replicate, List.take_of_length_le (by simp)]
  rfl
theorem sign_slice1 (w : World) : (Instr.slice 9 (.string ⟨#[97, 98, 103, 102]⟩) (some (.int .i64 0)) (some (.int .i64 1)) none).run Try.prog w = .ok (.string (str [97])) w := by kernel_rfl
theorem sign_slice2 (w : World) : (Instr.slice 9 (.string ⟨#[97, 98, 103, 102]⟩) (some (.int .i64 1)) (some (.int .i64 2)) none).run Try.prog w = .ok (.string (str [98])) w := by kernel_rfl
theorem sign_slice3 (w : World) : (Instr.slice 9 (.string ⟨#[97, 98, 103, 102]⟩) (some (.int .i64 2)) (some (.int .i64 3)) none).run Try.prog w = .ok (.string (str [103])) w := by kernel_rfl
theorem sign_slice4 (w : World) : (Instr.slice 9 (.string ⟨#[97, 98, 103, 102]⟩) (some (.int .i64 3)) (some (.int .i64 4)) none).run Try.prog w = .ok (.string (str [102])) w := by kernel_rfl
theorem sign_slice {s : Int} (h0 : 1 ≤ s) (h1 : s ≤ 4) (w : World) :
    (Instr.slice 9 (.string ⟨#[97, 98, 103, 102]⟩) (some (.int .i64 (s - 1))) (some (.int .i64 s)) none).run Try.prog w = .ok (.string (str (ltr s))) w := by
  have : s = 1 ∨ s = 2 ∨ s = 3 ∨ s = 4 := by omega
  rcases this with rfl | rfl | rfl | rfl
  · exact sign_slice1 w
  · exact sign_slice2 w
  · exact sign_slice3 w
  · exact sign_slice4 w
theorem cell_lowT {W w2 : World} {q : Addr} {x : Value} (hb : Below W.heap.size W w2) (h : W.cell? q = some x) : w2.cell? q = some x := by
  rw [hb.cell (World.block_lt_of_cell? _ _ h)]; exact h
theorem okN_signs {s v : Int} {n : Nat} (hs : s ≠ 0) (h : okN s v n = true) : 1 ≤ s ∧ s ≤ 4 := by
  have h' := ((okN_iff _ _ _).1 h).1
  unfold ar at h'
  split at h'
  · omega
  · split at h'
    · omega
    · split at h' <;> omega

set_option maxRecDepth 100000 in
set_option maxHeartbeats 1000000 in
theorem symText_any (N : Nat) : ∀ (s : Int) (a : Option Addr) (c : Nat) (k : Fo) (w : World), NSl w 0 w.heap.size a k → s ≠ 0 → okN s 0 (flen k) = true → fok k = true → fsz k ≤ N → N ≤ 1000 →
    Calls Try.prog 143 #[.agg #[.int .i64 s, .slice a (flen k) c]] w fun e w' => e = .returned (.string (str (tx s 0 k))) ∧ Below w.heap.size w w' := by
  induction N using Nat.strongRecOn with
  | _ N ih =>
    intro s a c k w hl hs hokN hok hN hN2
    have hfl := flen_le_sz k
    obtain ⟨hs1, hs4⟩ := okN_signs hs hokN
    have hsl := fun w => sign_slice hs1 hs4 w
    have hshort := fts_short k hok
    have hjl := join_len (fts k)
    have hfl2 := fts_len k
    have hll := ltr_len s
    have HOK := Lib.hid hok
    have HSH := Lib.hid hshort
    have IH := Lib.hid ih
    have HS := Lib.hid hs
    have hz1 : (str (ltr s)).size = 1 := by rw [str_size]; exact hll
    have hz2 : (str (Lib.join (fts k) [44])).size ≤ 100000 := by rw [str_size]; omega
    have hz3 : (str (ltr s ++ [40])).size = 2 := by rw [str_size]; simp [hll]
    have hz4 : (str ((ltr s ++ [40]) ++ Lib.join (fts k) [44])).size ≤ 100002 := by rw [str_size] at hz2 ⊢; simp [hll]; omega
    have HJ1 : Hid (str (ltr s) ++ ⟨#[40]⟩ = str (ltr s ++ [40])) := (str_add _ [40])
    have HJ2 : Hid (str (ltr s ++ [40]) ++ str (Lib.join (fts k) [44]) = str ((ltr s ++ [40]) ++ Lib.join (fts k) [44])) := (str_add _ _)
    have HJ3 : Hid (str ((ltr s ++ [40]) ++ Lib.join (fts k) [44]) ++ ⟨#[41]⟩ = str (((ltr s ++ [40]) ++ Lib.join (fts k) [44]) ++ [41])) := (str_add _ [41])
    clear ih hok hshort hjl hll hs hokN
    by_cases hk0 : flen k = 0
    · have HT := Lib.hid (tx_leaf (v := 0) HS.out hk0)
      have ek : ((flen k : Int) == 0) = true := by simp [hk0]
      clear hl hfl hN hfl2 hk0
      go_enter Try.func143, Try.ntmps143
      go_wp2_with fail
      go_ret
      exact ⟨by rw [HT.out]; rfl, (Below.refl _ _).alloc (Nat.le_refl _) _⟩
    · have HT := Lib.hid (tx_kids (v := 0) HS.out hk0)
      have ek : ((flen k : Int) == 0) = false := by simp; omega
      have hmk := make_strs (flen k) (by omega)
      have HST := Lib.hid (strs_made (w.alloc (.cells #[.int .i64 s, .slice a (flen k) c] 120)) (flen k) (by omega))
      go_enter Try.func143, Try.ntmps143
      go_wp2_with fail
      clear hmk
      go_loopw [25] (fun i wr => ∃ (j : Nat) (ys : List (List UInt8)), j ≤ flen k ∧ i = .int .i64 j ∧ Hid (ys.length = flen k ∧ ∀ q, q < j → ys[q]? = (fts k)[q]?) ∧ Hid (wr.ownsRow (w.heap.size + 1) 9 1 (.slice (some ⟨w.heap.size + 1, 0, none⟩) (flen k) (flen k)) (flen k) (ys.map fun l => Value.string (str l))) ∧ Below (w.heap.size + 1) (w.alloc (.cells #[.int .i64 s, .slice a (flen k) c] 120)) wr) (fun i _ => flen k - (intOf i).toNat)
      case atStart => exact ⟨0, List.replicate (flen k) [], by omega, rfl, ⟨by simp, fun q hq => by omega⟩, by simpa [Hid] using HST.out, (Below.refl _ _).alloc (by simp) _⟩
      case round =>
        clear HST
        obtain ⟨j, ys, hj, rfl, hys, hown, hbl⟩ := hrel
        have hsr := hbl.size
        simp at hsr
        by_cases hlt : j < flen k
        · rcases hl with rfl | ⟨b, o, rfl, hrow⟩
          · simp [flen] at hlt
          obtain ⟨s', v', kk, val, ⟨x, y, hd⟩, _, hbB, hkc, hn⟩ := nrow_at (hrow.below (after_top hbl)) hlt
          have hkN := fsz_kid hd
          have hkok := fok_kid HOK.out hd
          have HAT := Lib.hid (fts_at j k hd)
          have HBL := Lib.hid hbl
          have g1 : (0 : Int) ≤ (j : Int) := by omega
          have g2 : (j : Int) < (flen k : Int) := by omega
          clear hd hrow hbl hsl hz1 hz2 hz3 hz4
          have hcl : ∃ u, wr.cell? ⟨w.heap.size + 1, j, none⟩ = some u := by
            rw [hown.out.cellAt j (by omega)]
            exact ⟨_, List.getElem?_eq_getElem (by simp [hys.out.1, hlt])⟩
          have hfz := hown.out.frozenAt j
          have HFIN : Hid (∀ w2 : World, Below wr.heap.size wr w2 → (∃ u, w2.cell? ⟨w.heap.size + 1, j, none⟩ = some u) ∧ w2.frozen? ⟨w.heap.size + 1, j, none⟩ = false ∧ (∃ ys' : List (List UInt8), Hid (ys'.length = flen k ∧ ∀ q, q < j + 1 → ys'[q]? = (fts k)[q]?) ∧ Hid ((w2.setCell ⟨w.heap.size + 1, j, none⟩ (.string (str (tx s' v' kk)))).ownsRow (w.heap.size + 1) 9 1 (.slice (some ⟨w.heap.size + 1, 0, none⟩) (flen k) (flen k)) (flen k) (ys'.map fun l => Value.string (str l)))) ∧ Below (w.heap.size + 1) (w.alloc (.cells #[.int .i64 s, .slice (some ⟨b, o, none⟩) (flen k) c] 120)) (w2.setCell ⟨w.heap.size + 1, j, none⟩ (.string (str (tx s' v' kk))))) := by
            intro w2 hb2
            have hown2 := own_low hb2 hown.out
            obtain ⟨u, hcl⟩ := hcl
            refine ⟨⟨u, cell_lowT hb2 hcl⟩, hown2.frozenAt j, ⟨ys.set j (tx s' v' kk), ?_, ?_⟩, (HBL.out.trans (hb2.mono hsr)).setCell (by simp) _⟩
            · refine ⟨by rw [List.length_set]; exact hys.out.1, fun q hq => ?_⟩
              by_cases e : q = j
              · subst e
                rw [List.getElem?_set_self (by rw [hys.out.1]; exact hlt), HAT.out]
              · rw [List.getElem?_set_ne (fun h => e h.symm)]
                exact hys.out.2 q (by omega)
            · obtain ⟨hst, _⟩ := hown2.stored j (.string (str (tx s' v' kk)))
              unfold Hid
              rw [List.map_set]
              exact hst
          clear hown hys hcl hfz HAT
          rcases hn with ⟨rfl, rfl, rfl⟩ | ⟨hs', a2, c2, rfl, hn2⟩
          · have hv := ((okN_iff _ _ _).1 hkok.1).2.1 rfl
            clear hkok
            go_wp2_with fail
            refine upon_method 127 (by kernel_rfl) (by kernel_rfl) ?_
            go_simp
            with_reducible refine (varText_any v' hv.1 (by omega) _).mono ?_
            rintro e w2 ⟨rfl, rfl⟩
            obtain ⟨⟨u, hcl⟩, hfz, ⟨ys', hys', hown'⟩, hbl'⟩ := HFIN.out w2 (Below.refl _ _)
            rw [tx_var] at hown' hbl'
            have HBL' := Lib.hid hbl'
            clear HFIN hbl'
            go_wp2_with fail
            go_roundw
            case rel => exact ⟨j + 1, ys', by omega, by go_num, hys', hown', HBL'.out⟩
            case measure => simp [intOf]; omega
          · have hv0 : v' = 0 := ((okN_iff _ _ _).1 hkok.1).2.2 hs'
            subst hv0
            have HKO := Lib.hid hkok
            have HN2 := Lib.hid hn2
            have HS' := Lib.hid hs'
            clear hn2 hkok hs'
            go_wp2_with fail
            refine upon_method 143 (by kernel_rfl) (by kernel_rfl) ?_
            go_simp
            with_reducible refine (IH.out (fsz kk) (by omega) s' a2 c2 kk _ ?_ HS'.out HKO.out.1 HKO.out.2 (Nat.le_refl _) (by omega)).mono ?_
            · exact HN2.out.mono (Nat.le_refl _) (by omega)
            rintro e w2 ⟨rfl, hb2⟩
            obtain ⟨⟨u, hcl⟩, hfz, ⟨ys', hys', hown'⟩, hbl'⟩ := HFIN.out w2 hb2
            have HBL' := Lib.hid hbl'
            clear HFIN hbl' hb2
            go_wp2_with fail
            go_roundw
            case rel => exact ⟨j + 1, ys', by omega, by go_num, hys', hown', HBL'.out⟩
            case measure => simp [intOf]; omega
        · have hje : j = flen k := by omega
          subst hje
          have HE : Hid (ys = fts k) := by
            refine List.ext_getElem? fun q => ?_
            by_cases hq : q < flen k
            · exact hys.out.2 q hq
            · rw [List.getElem?_eq_none (by rw [hys.out.1]; omega), List.getElem?_eq_none (by rw [fts_len]; omega)]
          have HCE : Hid (∀ (q : Nat) l, (fts k)[q]? = some l → wr.cell? ⟨w.heap.size + 1, q, none⟩ = some (.string (str l))) := fun q l hql => by
            have hq := (List.getElem?_eq_some_iff.1 hql).1
            rw [hown.out.cellAt q (by rw [fts_len] at hq; omega), HE.out, List.getElem?_map, hql]
            rfl
          have hgl : w.heap.size + 1 < wr.heap.size := by
            rcases hown.out.2 with ⟨h, _⟩ | ⟨g, cap, cur, hv, _, hg, _⟩
            · cases h
            · simp only [Value.slice.injEq, Option.some.injEq, Addr.mk.injEq] at hv
              obtain ⟨⟨rfl, _⟩, _⟩ := hv
              exact (Array.getElem?_eq_some_iff.1 hg).1
          have HBL := Lib.hid hbl
          clear hys hown hbl
          go_wp2_with fail
          rw [HJ1.out]
          go_wp2_with fail
          with_reducible refine (join_any (fts k) (w.heap.size + 1) (flen k) (flen k) _ hfl2.symm HCE.out hgl (by omega) (by omega) ?_).mono ?_
          · have := HSH.out; omega
          rintro e w2 ⟨rfl, hb2⟩
          have HB2 := Lib.hid (HBL.out.trans (hb2.mono hsr))
          clear hb2 hgl
          go_wp2_with fail
          rw [HJ2.out]
          go_wp2_with fail
          rw [HJ3.out]
          go_wp2_with fail
          go_ret
          exact ⟨by rw [HT.out]; simp, after_top HB2.out⟩
end Go.Proofs.Ytcpibiahojpjiaa

/-! G2: sameNode, signOf, kidsOf, a cut of a row of nodes, before. -/
namespace Go.Proofs.Ytcpibiahojpjiaa
open Go.RowKit Go.Deep

/-- A node of a well-formed term. -/
structure Nd (w : World) (val : Value) (s v : Int) (k : Fo) : Prop where
  node : NodeC w 0 w.heap.size val s v k
  okn : okN s v (flen k) = true
  ok : fok k = true
  small : fsz k ≤ 100
theorem Nd.next {w w2 : World} {val : Value} {s v : Int} {k : Fo} (h : Nd w val s v k) (hb : Below w.heap.size w w2) : Nd w2 val s v k :=
  ⟨(h.node.below hb).mono (Nat.le_refl _) hb.size, h.okn, h.ok, h.small⟩
theorem Nd.shape {w : World} {val : Value} {s v : Int} {k : Fo} (h : Nd w val s v k) : Shape s v k := shape_of h.okn h.ok

theorem varTx_any (v : Int) (h : okN 0 v (flen (.nil : Fo)) = true) (w : World) :
    Calls Try.prog 127 #[.int .i64 v] w fun e w' => e = .returned (.string (str (tx 0 v .nil))) ∧ Below w.heap.size w w' := by
  have hv := ((okN_iff _ _ _).1 h).2.1 rfl
  rw [tx_var]
  exact (varText_any v hv.1 (by omega) w).mono fun e w' ⟨he, hw⟩ => ⟨he, hw ▸ Below.refl _ _⟩
theorem txt_teq {s v : Int} {k : Fo} {s' v' : Int} {k' : Fo} (h : Shape s v k) (h' : Shape s' v' k') : ((str (tx s v k)).toList == (str (tx s' v' k')).toList) = teq s v k s' v' k' := by
  have hl : ∀ l : List UInt8, (str l).toList = l := fun l => by simp [str]
  rw [hl, hl]
  have := tx_teq h h'
  cases ht : teq s v k s' v' k' with
  | true => exact beq_iff_eq.2 (this.2 ht)
  | false => exact beq_eq_false_iff_ne.2 fun he => by rw [this.1 he] at ht; cases ht

set_option maxRecDepth 100000 in
set_option maxHeartbeats 1000000 in
theorem sameNode_any {s v : Int} {k : Fo} {val : Value} {s' v' : Int} {k' : Fo} {val' : Value} {w : World} (h : Nd w val s v k) (h' : Nd w val' s' v' k') :
    Calls Try.prog 86 #[val, val'] w fun e w' => e = .returned (.bool (teq s v k s' v' k')) ∧ Below w.heap.size w w' := by
  have HT := Lib.hid (txt_teq h.shape h'.shape)
  have HO := Lib.hid h.okn
  have HO' := Lib.hid h'.okn
  have HF := Lib.hid h.ok
  have HF' := Lib.hid h'.ok
  have hz := h.small
  have hz' := h'.small
  rcases h.node with ⟨rfl, rfl, rfl⟩ | ⟨hs, a, c, rfl, _, hl⟩
  · rcases h'.node with ⟨rfl, rfl, rfl⟩ | ⟨hs', a', c', rfl, _, hl'⟩
    · clear h h'
      go_enter Try.func86, Try.ntmps86
      go_wp2_with fail
      refine upon_method 127 (by kernel_rfl) (by kernel_rfl) ?_
      go_simp
      with_reducible refine (varTx_any v HO.out _).mono ?_
      rintro e w2 ⟨rfl, hb2⟩
      go_wp2_with fail
      refine upon_method 127 (by kernel_rfl) (by kernel_rfl) ?_
      go_simp
      with_reducible refine (varTx_any v' HO'.out _).mono ?_
      rintro e w3 ⟨rfl, hb3⟩
      go_wp2_with fail
      go_ret
      exact ⟨by rw [HT.out]; rfl, hb2.trans (hb3.mono hb2.size)⟩
    · have HL' := Lib.hid hl'
      obtain rfl : v' = 0 := ((okN_iff _ _ _).1 HO'.out).2.2 hs'
      have HS' := Lib.hid hs'
      clear h h' hl' hs'
      go_enter Try.func86, Try.ntmps86
      go_wp2_with fail
      refine upon_method 127 (by kernel_rfl) (by kernel_rfl) ?_
      go_simp
      with_reducible refine (varTx_any v HO.out _).mono ?_
      rintro e w2 ⟨rfl, hb2⟩
      have HB2 := Lib.hid hb2
      clear hb2
      go_wp2_with fail
      refine upon_method 143 (by kernel_rfl) (by kernel_rfl) ?_
      go_simp
      with_reducible refine (symText_any (fsz k') s' a' c' k' _ ((HL'.out.below HB2.out).mono (Nat.le_refl _) HB2.out.size).to HS'.out HO'.out HF'.out (Nat.le_refl _) (by omega)).mono ?_
      rintro e w3 ⟨rfl, hb3⟩
      go_wp2_with fail
      go_ret
      exact ⟨by rw [HT.out]; rfl, HB2.out.trans (hb3.mono HB2.out.size)⟩
  · have HL := Lib.hid hl
    obtain rfl : v = 0 := ((okN_iff _ _ _).1 HO.out).2.2 hs
    have HS := Lib.hid hs
    rcases h'.node with ⟨rfl, rfl, rfl⟩ | ⟨hs', a', c', rfl, _, hl'⟩
    · clear h h' hl hs
      go_enter Try.func86, Try.ntmps86
      go_wp2_with fail
      refine upon_method 143 (by kernel_rfl) (by kernel_rfl) ?_
      go_simp
      with_reducible refine (symText_any (fsz k) s a c k _ HL.out.to HS.out HO.out HF.out (Nat.le_refl _) (by omega)).mono ?_
      rintro e w2 ⟨rfl, hb2⟩
      have HB2 := Lib.hid hb2
      clear hb2
      go_wp2_with fail
      refine upon_method 127 (by kernel_rfl) (by kernel_rfl) ?_
      go_simp
      with_reducible refine (varTx_any v' HO'.out _).mono ?_
      rintro e w3 ⟨rfl, hb3⟩
      go_wp2_with fail
      go_ret
      exact ⟨by rw [HT.out]; rfl, HB2.out.trans (hb3.mono HB2.out.size)⟩
    · have HL' := Lib.hid hl'
      obtain rfl : v' = 0 := ((okN_iff _ _ _).1 HO'.out).2.2 hs'
      have HS' := Lib.hid hs'
      clear h h' hl hl' hs hs'
      go_enter Try.func86, Try.ntmps86
      go_wp2_with fail
      refine upon_method 143 (by kernel_rfl) (by kernel_rfl) ?_
      go_simp
      with_reducible refine (symText_any (fsz k) s a c k _ HL.out.to HS.out HO.out HF.out (Nat.le_refl _) (by omega)).mono ?_
      rintro e w2 ⟨rfl, hb2⟩
      have HB2 := Lib.hid hb2
      clear hb2
      go_wp2_with fail
      refine upon_method 143 (by kernel_rfl) (by kernel_rfl) ?_
      go_simp
      with_reducible refine (symText_any (fsz k') s' a' c' k' _ ((HL'.out.below HB2.out).mono (Nat.le_refl _) HB2.out.size).to HS'.out HO'.out HF'.out (Nat.le_refl _) (by omega)).mono ?_
      rintro e w3 ⟨rfl, hb3⟩
      go_wp2_with fail
      go_ret
      exact ⟨by rw [HT.out]; rfl, HB2.out.trans (hb3.mono HB2.out.size)⟩

/-- A row of nodes of well-formed terms. -/
structure Nds (w : World) (a : Option Addr) (c : Nat) (k : Fo) : Prop where
  sl : CSl w 0 w.heap.size a k
  cap : flen k ≤ c
  ok : fok k = true
  small : fsz k ≤ 100
theorem Nds.next {w w2 : World} {a : Option Addr} {c : Nat} {k : Fo} (h : Nds w a c k) (hb : Below w.heap.size w w2) : Nds w2 a c k :=
  ⟨(h.sl.below hb).mono (Nat.le_refl _) hb.size, h.cap, h.ok, h.small⟩
theorem Nds.at {w : World} {a : Option Addr} {c : Nat} {k : Fo} {j : Nat} (h : Nds w a c k) (hj : j < flen k) :
    ∃ b o s v kk val x y, a = some ⟨b, o, none⟩ ∧ fdrop j k = .node x y (s, v) kk (fdrop (j + 1) k) ∧ w.cell? ⟨b, o + j, none⟩ = some val ∧ Nd w val s v kk ∧ fsz kk < fsz k := by
  rcases h.sl with rfl | ⟨b, o, rfl, hr⟩
  · simp [flen] at hj
  · obtain ⟨s, v, kk, val, ⟨x, y, hd⟩, _, _, hc, hn⟩ := crow_at hr hj
    have hk := fok_kid h.ok hd
    have hs := fsz_kid hd
    have := h.small
    exact ⟨b, o, s, v, kk, val, x, y, rfl, hd, hc, ⟨hn, hk.1, hk.2, by omega⟩, by omega⟩

def KidsPostC (k : Fo) (w : World) (e : Ending) (w' : World) : Prop := ∃ a c, e = .returned (.slice a (flen k) c) ∧ Below w.heap.size w w' ∧ Nds w a c k
set_option maxRecDepth 100000 in
set_option maxHeartbeats 400000 in
theorem kidsOfC_any {s v : Int} {k : Fo} {nv : Value} {w : World} (h : Nd w nv s v k) : Calls Try.prog 71 #[nv] w (KidsPostC k w) := by
  have hta := assert_var
  have htb := assert_sym
  have HO := Lib.hid h.ok
  have HZ := Lib.hid h.small
  rcases h.node with ⟨rfl, rfl, rfl⟩ | ⟨hs, a, c, rfl, hcp, hn⟩
  · clear h
    go_enter Try.func71, Try.ntmps71
    go_wp2_with fail
    go_ret
    exact ⟨none, 0, rfl, Below.refl _ _, .inl rfl, Nat.le_refl _, HO.out, HZ.out⟩
  · have HN := Lib.hid hn
    have HC := Lib.hid hcp
    clear hn hcp h
    go_enter Try.func71, Try.ntmps71
    go_wp2_with fail
    go_ret
    exact ⟨a, c, rfl, (Below.refl _ _).alloc (Nat.le_refl _) _, HN.out, HC.out, HO.out, HZ.out⟩
set_option maxRecDepth 100000 in
set_option maxHeartbeats 400000 in
theorem signOf_any {s v : Int} {k : Fo} {nv : Value} {w : World} (h : Nd w nv s v k) : Calls Try.prog 67 #[nv] w fun e w' => e = .returned (.int .i64 s) ∧ Below w.heap.size w w' := by
  have hta := assert_var
  have htb := assert_sym
  rcases h.node with ⟨rfl, rfl, rfl⟩ | ⟨hs, a, c, rfl, hcp, hn⟩
  · clear h
    go_enter Try.func67, Try.ntmps67
    go_wp2_with fail
    go_ret
    exact ⟨rfl, Below.refl _ _⟩
  · clear hn hcp h
    go_enter Try.func67, Try.ntmps67
    go_wp2_with fail
    go_ret
    exact ⟨rfl, (Below.refl _ _).alloc (Nat.le_refl _) _⟩

/-- The nodes from number n on. -/
theorem cut_nodes {a : Option Addr} {c n m : Nat} {k : Fo} (hm : m = flen k) (hn : n ≤ flen k) (hc : flen k ≤ c) : ∃ a' c', (∀ w : World, (Instr.slice 104 (.slice a m c) (some (.int .i64 (n : Int))) none none).run Try.prog w = .ok (.slice a' (flen (fdrop n k)) c') w) ∧
    ∀ w : World, Nds w a c k → Nds w a' c' (fdrop n k) := by
  subst hm
  have hti := Try.infoNode
  obtain ⟨ti, hti, hz⟩ := Option.map_eq_some_iff.1 hti
  simp only [Prod.mk.injEq] at hz
  have hsz : ∀ w : World, (sizeOf (Try.prog.elem 104)).run Try.prog w = .ok 1 w := fun w => by
    have he : Try.prog.elem 104 = 68 := by kernel_rfl
    rw [he]
    simp [sizeOf, typeInfo, hti, hz.2.1]
  have hel : Try.prog.underlying 104 = some (.slice (Try.prog.elem 104)) := by kernel_rfl
  have hrun : ∀ w : World, (Instr.slice 104 (.slice a (flen k) c) (some (.int .i64 (n : Int))) none none).run Try.prog w = .ok (sliced a n (flen k) c 1) w := fun w => by
    rw [run_slice_l (P := Try.prog) w 104 a (flen k) c hel .i64 (n : Int) (by omega) (by omega), hsz]
    simp [Result.andThen]
  refine ⟨if c = n then a else a.map (·.add (n * 1)), c - n, fun w => by rw [hrun w, flen_drop]; rfl, fun w h => ⟨?_, by rw [flen_drop]; omega, ?_, ?_⟩⟩
  · split
    · exact .inl (fdrop_all (by omega))
    · rcases h.sl with rfl | ⟨b, o, rfl, h1⟩
      · exact .inl (fdrop_all (by simp [flen]))
      · refine .inr ⟨b, o + n, ?_, crow_drop n k b o h1⟩
        have ha : (⟨b, o, none⟩ : Addr).add n = ⟨b, o + n, none⟩ := by unfold Addr.add; split <;> simp_all
        simp only [Option.map_some, Nat.mul_one, ha]
  · have : ∀ (n : Nat) (k : Fo), fok k = true → fok (fdrop n k) = true := by
      intro n
      induction n with
      | zero => intro k h; exact h
      | succ n ih =>
        intro k h
        cases k with
        | nil => rfl
        | node x y p kk r => simp only [fok, Bool.and_eq_true] at h; exact ih r h.2
    exact this n k h.ok
  · have := fsz_drop n k
    have := h.small
    omega
end Go.Proofs.Ytcpibiahojpjiaa
