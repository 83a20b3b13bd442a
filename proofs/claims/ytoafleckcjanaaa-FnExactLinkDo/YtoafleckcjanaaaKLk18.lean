/- Several texts in one: XE4, XTo, OT. -/
import Derived.Test.YtoafleckcjanaaaKLk17
import Derived.Test.YtoafleckcjanaaaKLk3
import Derived.Test.YtoafleckcjanaaaKLk2
import Derived.Test.YtoafleckcjanaaaKLk11
import Derived.Test.YtoafleckcjanaaaKLk16

/-! XE4: Marks in a copy of a row of equations. -/
namespace Go.Proofs.Ytoafleckcjanaaa
open Go.RowKit Go.Deep

/-- Both sides of each equation, one behind the other. -/
def hlf : List Eqd → List Tm3
  | [] => []
  | x :: r => x.1 :: x.2 :: hlf r
theorem hlf_len : ∀ es : List Eqd, (hlf es).length = 2 * es.length
  | [] => rfl
  | x :: r => by simp only [hlf, List.length_cons, hlf_len r]; omega
theorem hlf_at : ∀ {es : List Eqd} {i : Nat} {x : Eqd}, es[i]? = some x → (hlf es)[2 * i]? = some x.1 ∧ (hlf es)[2 * i + 1]? = some x.2
  | [], _, _, h => by simp at h
  | y :: r, 0, x, h => by
    simp only [List.getElem?_cons_zero, Option.some.injEq] at h
    subst h
    exact ⟨rfl, rfl⟩
  | y :: r, i + 1, x, h => by
    obtain ⟨h1, h2⟩ := hlf_at (es := r) (i := i) (by simpa using h)
    rw [show 2 * (i + 1) = 2 * i + 1 + 1 from by omega]
    exact ⟨by simpa [hlf] using h1, by simpa [hlf] using h2⟩
theorem hlf_of : ∀ {es : List Eqd} {h : Nat} {t : Tm3}, (hlf es)[h]? = some t → ∃ i x, es[i]? = some x ∧ ((h = 2 * i ∧ t = x.1) ∨ (h = 2 * i + 1 ∧ t = x.2))
  | [], _, _, h => by simp [hlf] at h
  | y :: r, 0, t, h => ⟨0, y, rfl, .inl ⟨rfl, by simpa [hlf] using h.symm⟩⟩
  | y :: r, 1, t, h => ⟨0, y, rfl, .inr ⟨rfl, by simpa [hlf] using h.symm⟩⟩
  | y :: r, h' + 2, t, h => by
    obtain ⟨i, x, h1, h2⟩ := hlf_of (es := r) (h := h') (by simpa [hlf] using h)
    rcases h2 with ⟨e1, e2⟩ | ⟨e1, e2⟩
    · exact ⟨i + 1, x, by simpa using h1, .inl ⟨by omega, e2⟩⟩
    · exact ⟨i + 1, x, by simpa using h1, .inr ⟨by omega, e2⟩⟩
/-- How many marks. -/
def mch : List Tm3 → Int
  | [] => 0
  | t :: r => 2 + 2 * (fsz t.2.2 : Int) + mch r
theorem mch_app : ∀ (xs ys : List Tm3), mch (xs ++ ys) = mch xs + mch ys
  | [], ys => by simp [mch]
  | t :: r, ys => by simp only [List.cons_append, mch, mch_app r ys]; omega
theorem mch_pos : ∀ xs : List Tm3, 0 ≤ mch xs
  | [] => by simp [mch]
  | t :: r => by have := mch_pos r; simp only [mch]; omega
theorem mch_take {ts : List Tm3} {j : Nat} {t : Tm3} (h : ts[j]? = some t) : mch (ts.take (j + 1)) = mch (ts.take j) + (2 + 2 * (fsz t.2.2 : Int)) := by
  rw [List.take_add_one, h, Option.toList_some, mch_app]
  simp [mch]
theorem mch_le {ts : List Tm3} (j : Nat) : mch (ts.take j) ≤ mch ts := by
  have h := mch_app (ts.take j) (ts.drop j)
  rw [List.take_append_drop] at h
  have := mch_pos (ts.drop j)
  omega
/-- In the midst of the marking. -/
structure MeAt (w : World) (base top g : Nat) (ts : List Tm3) (wr : World) : Prop where
  low : Below base w wr
  far : ∀ b, top ≤ b → b < w.heap.size → wr.heap[b]? = w.heap[b]?
  fr : ∀ o, wr.frozen? ⟨g, o, none⟩ = false
  cells : ∀ (i : Nat) (x : Tm3), ts[i]? = some x → ∃ y0 y1 a c, wr.cell? ⟨g, i * 3, none⟩ = some (.int .i64 y0) ∧ wr.cell? ⟨g, i * 3 + 1, none⟩ = some (.int .i64 y1) ∧ wr.cell? ⟨g, i * 3 + 2, none⟩ = some (.slice a (flen x.2.2) c) ∧ ShS wr (g + 1) top a x.2.2
theorem MeAt.step {w wr w2 : World} {base top g : Nat} {ts : List Tm3} {j : Nat} {m0 m1 : Int} (h : MeAt w base top g ts wr) (hgb : base ≤ g) (hgt : g < top) (_htop : top ≤ w.heap.size) {z0 z1 : Int} (c0 : wr.cell? ⟨g, j * 3, none⟩ = some (.int .i64 z0)) (c1 : wr.cell? ⟨g, j * 3 + 1, none⟩ = some (.int .i64 z1))
    (hm : Marked (g + 1) top ((wr.setCell ⟨g, j * 3, none⟩ (.int .i64 m0)).setCell ⟨g, j * 3 + 1, none⟩ (.int .i64 m1)) w2) : MeAt w base top g ts w2 := by
  have hsz := h.low.size
  have hg2 : ∀ o, w2.cell? ⟨g, o, none⟩ = ((wr.setCell ⟨g, j * 3, none⟩ (.int .i64 m0)).setCell ⟨g, j * 3 + 1, none⟩ (.int .i64 m1)).cell? ⟨g, o, none⟩ := fun o => World.cell?_of_block (a := ⟨g, o, none⟩) (hm.below.block g (by omega))
  have hgo : ∀ o, o ≠ j * 3 → o ≠ j * 3 + 1 → w2.cell? ⟨g, o, none⟩ = wr.cell? ⟨g, o, none⟩ := fun o h0 h1 => by
    rw [hg2 o, World.cell?_setCell_other _ _ _ _ (ne_offB (Ne.symm h1)), World.cell?_setCell_other _ _ _ _ (ne_offB (Ne.symm h0))]
  have hs0 : w2.cell? ⟨g, j * 3, none⟩ = some (.int .i64 m0) := by
    rw [hg2, World.cell?_setCell_other _ _ _ _ (ne_offB (by omega))]; exact World.cell?_setCell_same _ _ _ c0
  have hs1 : w2.cell? ⟨g, j * 3 + 1, none⟩ = some (.int .i64 m1) := by
    rw [hg2]
    refine World.cell?_setCell_same _ _ _ (?_ : _ = some (.int .i64 z1))
    rw [World.cell?_setCell_other _ _ _ _ (ne_offB (by omega))]; exact c1
  have hint : ∀ o y, wr.cell? ⟨g, o, none⟩ = some (.int .i64 y) → ∃ y', w2.cell? ⟨g, o, none⟩ = some (.int .i64 y') := fun o y hy => by
    by_cases e0 : o = j * 3
    · exact ⟨m0, by rw [e0]; exact hs0⟩
    by_cases e1 : o = j * 3 + 1
    · exact ⟨m1, by rw [e1]; exact hs1⟩
    exact ⟨y, by rw [hgo o e0 e1]; exact hy⟩
  have hS : Same (g + 1) top wr ((wr.setCell ⟨g, j * 3, none⟩ (.int .i64 m0)).setCell ⟨g, j * 3 + 1, none⟩ (.int .i64 m1)) := (Same.setCell (fun _ _ _ => rfl) (.inl (by simp)) _).setCell (.inl (by simp)) _
  refine ⟨((h.low.setCell hgb _).setCell hgb _).trans (hm.below.mono (by omega)), fun b h1 h2 => ?_, fun o => ?_, fun i x hx => ?_⟩
  · rw [hm.far b h1 (by simp; omega), Below.heap_setCell _ _ _ _ (by simp; omega), Below.heap_setCell _ _ _ _ (by simp; omega)]; exact h.far b h1 h2
  · rw [frozen_same (hm.below.block g (by omega)), World.frozen?_setCell, World.frozen?_setCell]; exact h.fr o
  · obtain ⟨y0, y1, a, c, d0, d1, d2, hsh⟩ := h.cells i x hx
    obtain ⟨y0', e0⟩ := hint _ _ d0
    obtain ⟨y1', e1⟩ := hint _ _ d1
    refine ⟨y0', y1', a, c, e0, e1, by rw [hgo _ (by omega) (by omega)]; exact d2, ShS.marked hm (?_)⟩
    rcases hsh with hsh | ⟨b, e, hsh⟩
    · exact .inl hsh
    · exact .inr ⟨b, e, hsh.same hS⟩
/-- What one half's marking wants and leaves. -/
theorem MeAt.half {w wr : World} {base top g : Nat} {ts : List Tm3} {j : Nat} {x1 x2 : Int} {xk : Fo} (h : MeAt w base top g ts wr) (hx : ts[j]? = some (x1, x2, xk)) (htop : top ≤ w.heap.size) (hgt : g < top) (hz : fsz xk ≤ 1048576) {m : Int} (hm0 : 0 ≤ m) (hm1 : m + 2 + 2 * (fsz xk : Int) ≤ 10000000) :
    ∃ y0 y1 a c, wr.cell? ⟨g, j * 3, none⟩ = some (.int .i64 y0) ∧ wr.cell? ⟨g, j * 3 + 1, none⟩ = some (.int .i64 y1) ∧ (wr.setCell ⟨g, j * 3, none⟩ (.int .i64 m)).cell? ⟨g, j * 3 + 1, none⟩ = some (.int .i64 y1) ∧ ((wr.setCell ⟨g, j * 3, none⟩ (.int .i64 m)).setCell ⟨g, j * 3 + 1, none⟩ (.int .i64 (m + 1))).cell? ⟨g, j * 3 + 2, none⟩ = some (.slice a (flen xk) c) ∧
      Calls Try.prog 62 #[.slice a (flen xk) c, .int .i64 (m + 1 + 1)] ((wr.setCell ⟨g, j * 3, none⟩ (.int .i64 m)).setCell ⟨g, j * 3 + 1, none⟩ (.int .i64 (m + 1))) fun e w' => e = .returned (.int .i64 (m + 1 + 1 + 2 * (fsz xk : Int))) ∧ Marked (g + 1) top ((wr.setCell ⟨g, j * 3, none⟩ (.int .i64 m)).setCell ⟨g, j * 3 + 1, none⟩ (.int .i64 (m + 1))) w' := by
  have hsz := h.low.size
  obtain ⟨y0, y1, a, c, d0, d1, d2, hsh⟩ := h.cells j _ hx
  dsimp only at d2 hsh
  have hS : Same (g + 1) top wr ((wr.setCell ⟨g, j * 3, none⟩ (.int .i64 m)).setCell ⟨g, j * 3 + 1, none⟩ (.int .i64 (m + 1))) := (Same.setCell (fun _ _ _ => rfl) (.inl (by simp)) _).setCell (.inl (by simp)) _
  refine ⟨y0, y1, a, c, d0, d1, by rw [World.cell?_setCell_other _ _ _ _ (ne_offB (by omega))]; exact d1, by rw [World.cell?_setCell_other _ _ _ _ (ne_offB (by omega)), World.cell?_setCell_other _ _ _ _ (ne_offB (by omega))]; exact d2, ?_⟩
  refine markTermS_any (fsz xk) a c xk (g + 1) top (m + 1 + 1) _ ?_ (Nat.le_refl _) hz (by omega) (by omega) (by simp; omega) (by simp; omega)
  rcases hsh with hsh | ⟨b, e, hsh⟩
  · exact .inl hsh
  · exact .inr ⟨b, e, hsh.same hS⟩
def MePost (base top : Nat) (es : List Eqd) (m : Int) (w : World) (e : Ending) (w' : World) : Prop :=
  e = .returned (.int .i64 (m + mch (hlf es))) ∧ Below base w w' ∧ ∀ b, top ≤ b → b < w.heap.size → w'.heap[b]? = w.heap[b]?

set_option maxRecDepth 100000 in
set_option maxHeartbeats 4000000 in
theorem markEqS_any (es : List Eqd) (A : Option Addr) (C base top : Nat) (m : Int) (w : World) (h : EX w base top es A) (htop : top ≤ w.heap.size) (hl : es.length ≤ 1048576) (hz : ∀ x ∈ es, fsz x.1.2.2 ≤ 1048576 ∧ fsz x.2.2.2 ≤ 1048576) (hm0 : 0 ≤ m) (hm1 : m ≤ 5000000) (hmm : mch (hlf es) ≤ 4200000) :
    Calls Try.prog 21 #[.slice A es.length C, .int .i64 m] w (MePost base top es m w) := by
  have HZ := Lib.hid hz
  rcases h with rfl | ⟨g, rfl, hgb, hgt, hf, hc⟩
  · go_enter Try.func21, Try.ntmps21
    go_wp2_with fail
    go_loopw [1, 5] (fun t i wr => t = .int .i64 m ∧ i = .int .i64 0 ∧ wr = w) (fun _ _ _ => 0)
    case atStart => exact ⟨rfl, rfl, rfl⟩
    case round =>
      obtain ⟨rfl, rfl, rfl⟩ := hrel
      go_wp2_with fail
      go_ret
      exact ⟨by simp [mch, hlf], Below.refl _ _, fun _ _ _ => rfl⟩
  have HST : Hid (MeAt w base top g (hlf es) w) := ⟨Below.refl _ _, fun _ _ _ => rfl, hf, fun h t ht => by
    obtain ⟨i, x, hx, hcase⟩ := hlf_of ht
    obtain ⟨a, c, a', c', c0, c1, c2, c3, c4, c5, ht1, ht2⟩ := hc i x hx
    rcases hcase with ⟨rfl, rfl⟩ | ⟨rfl, rfl⟩
    · rw [show 2 * i * 3 = i * 6 from by omega]
      exact ⟨_, _, a, c, c0, c1, c2, ht1.2⟩
    · rw [show (2 * i + 1) * 3 = i * 6 + 3 from by omega]
      exact ⟨_, _, a', c', c3, c4, c5, ht2.2⟩⟩
  clear hf hc hz
  go_enter Try.func21, Try.ntmps21
  go_wp2_with fail
  go_loopw [1, 5] (fun t i wr => ∃ j : Nat, t = .int .i64 (m + mch ((hlf es).take (2 * j))) ∧ i = .int .i64 j ∧ j ≤ es.length ∧ Hid (MeAt w base top g (hlf es) wr)) (fun _ i _ => es.length - (intOf i).toNat)
  case atStart => exact ⟨0, by simp [mch], rfl, Nat.zero_le _, HST⟩
  case round =>
    clear HST
    obtain ⟨j, rfl, rfl, hj, HAT⟩ := hrel
    by_cases hlt : j < es.length
    · obtain ⟨x, hx⟩ : ∃ x, es[j]? = some x := ⟨es[j], List.getElem?_eq_getElem hlt⟩
      obtain ⟨hx1, hx2⟩ := hlf_at hx
      obtain ⟨⟨s, v, k⟩, s', v', k'⟩ := x
      obtain ⟨hz1, hz2⟩ := HZ.out _ (List.mem_of_getElem? hx)
      dsimp only at hx1 hx2 hz1 hz2
      obtain ⟨M, hM⟩ : ∃ M, m + mch ((hlf es).take (2 * j)) = M := ⟨_, rfl⟩
      have h1 := mch_pos ((hlf es).take (2 * j))
      have h2 := mch_le (ts := hlf es) (2 * j + 1 + 1)
      have h3 := mch_take hx1
      have h4 := mch_take hx2
      dsimp only at h3 h4
      have HNX : Hid (m + mch ((hlf es).take (2 * (j + 1))) = M + 1 + 1 + 2 * (fsz k : Int) + 1 + 1 + 2 * (fsz k' : Int)) := by
        rw [Hid, show 2 * (j + 1) = 2 * j + 1 + 1 from by omega, h4, h3]; omega
      obtain ⟨y0, y1, a, c, c0, c1, d1, d2, hcall⟩ := HAT.out.half (m := M) hx1 htop hgt hz1 (by omega) (by omega)
      rw [show 2 * j * 3 = j * 6 from by omega] at c0 c1 d1 d2 hcall
      have f0 := HAT.out.fr (j * 6)
      have f1 := HAT.out.fr (j * 6 + 1)
      have g1 : (0 : Int) ≤ (j : Int) := by omega
      have g2 : (j : Int) < (es.length : Int) := by omega
      have HC := Lib.hid (And.intro c0 c1)
      have HCALL := Lib.hid hcall
      have HX2 := Lib.hid hx2
      have hMb : 0 ≤ M := by omega
      have hMt : M + 1 + 1 + 2 * (fsz k : Int) + 2 + 2 * (fsz k' : Int) ≤ 10000000 := by omega
      rw [hM]
      clear hx hx1 hx2 hcall c1 h1 h2 h3 h4 hM
      go_wp2_with fail
      with_reducible refine HCALL.out.mono ?_
      rintro e w2 ⟨rfl, hmk⟩
      have hat2 : MeAt w base top g (hlf es) w2 := HAT.out.step (j := 2 * j) (m0 := M) (m1 := M + 1) hgb hgt htop (by rw [show 2 * j * 3 = j * 6 from by omega]; exact HC.out.1) (by rw [show 2 * j * 3 = j * 6 from by omega]; exact HC.out.2) (by rw [show 2 * j * 3 = j * 6 from by omega]; exact hmk)
      have HAT2 := Lib.hid hat2
      obtain ⟨N, hN⟩ : ∃ N, M + 1 + 1 + 2 * (fsz k : Int) = N := ⟨_, rfl⟩
      rw [hN] at HNX hMt ⊢
      obtain ⟨z0, z1, a', c', e0, e1, u1, u2, hcall2⟩ := HAT2.out.half (m := N) HX2.out htop hgt hz2 (by omega) (by omega)
      rw [show (2 * j + 1) * 3 = j * 6 + 3 from by omega] at e0 e1 u1 u2 hcall2
      have p0 := HAT2.out.fr (j * 6 + 3)
      have p1 := HAT2.out.fr (j * 6 + 3 + 1)
      have HC2 := Lib.hid (And.intro e0 e1)
      have HCALL2 := Lib.hid hcall2
      have hNb : 0 ≤ N := by omega
      clear hmk hat2 HCALL HC c0 d1 d2 f0 f1 hcall2 e1 hN
      go_wp2_with fail
      with_reducible refine HCALL2.out.mono ?_
      rintro e w3 ⟨rfl, hmk⟩
      have hat3 : MeAt w base top g (hlf es) w3 := HAT2.out.step (j := 2 * j + 1) (m0 := N) (m1 := N + 1) hgb hgt htop (by rw [show (2 * j + 1) * 3 = j * 6 + 3 from by omega]; exact HC2.out.1) (by rw [show (2 * j + 1) * 3 = j * 6 + 3 from by omega]; exact HC2.out.2) (by rw [show (2 * j + 1) * 3 = j * 6 + 3 from by omega]; exact hmk)
      have HAT3 := Lib.hid hat3
      clear hmk hat3 HCALL2 HC2 e0 u1 u2 p0 p1
      go_wp2_with fail
      go_roundw
      case rel => exact ⟨j + 1, by rw [HNX.out], by go_num, by omega, HAT3⟩
      case measure => simp [intOf]; omega
    · have hje : j = es.length := by omega
      subst hje
      have HE : Hid ((hlf es).take (2 * es.length) = hlf es) := by rw [Hid, ← hlf_len]; exact List.take_length
      have HP : Hid (MePost base top es m w (.returned (.int .i64 (m + mch ((hlf es).take (2 * es.length))))) wr) := ⟨by rw [HE.out], HAT.out.low, HAT.out.far⟩
      go_wp2_with fail
      go_ret
      exact HP.out
end Go.Proofs.Ytoafleckcjanaaa

/-! XTo: Trees of one's own as XT has them, and no cell of them frozen. Plain lemmas. -/
namespace Go.Proofs.Ytoafleckcjanaaa
open Go.RowKit Go.Deep

/-- The row of the terms k in block b from offset o on, not frozen; the rows below them from block lo on below B. -/
def Tro (w : World) : Fo → Nat → Nat → Nat → Nat → Prop
  | .nil, _, _, lo, B => lo ≤ B
  | .node _ _ _ k r, b, o, lo, B => b < lo ∧ (∃ x, w.cell? ⟨b, o, none⟩ = some (.int .i64 x)) ∧ (∃ x, w.cell? ⟨b, o + 1, none⟩ = some (.int .i64 x)) ∧ w.frozen? ⟨b, o, none⟩ = false ∧ (w.frozen? ⟨b, o + 1, none⟩ = false ∧ w.frozen? ⟨b, o + 2, none⟩ = false) ∧
      ∃ M a c, lo ≤ M ∧ w.cell? ⟨b, o + 2, none⟩ = some (.slice a (flen k) c) ∧ (k = .nil ∨ ∃ b', a = some ⟨b', 0, none⟩ ∧ lo ≤ b' ∧ b' < M ∧ Tro w k b' 0 (b' + 1) M) ∧ Tro w r b (o + 3) M B
def TroS (w : World) (lo B : Nat) (a : Option Addr) (k : Fo) : Prop := k = .nil ∨ ∃ b, a = some ⟨b, 0, none⟩ ∧ lo ≤ b ∧ b < B ∧ Tro w k b 0 (b + 1) B

theorem Tro.le {w : World} : ∀ {k : Fo} {b o lo B : Nat}, Tro w k b o lo B → lo ≤ B
  | .nil, _, _, _, _, h => h
  | .node _ _ _ _ _, _, _, _, _, ⟨_, _, _, _, _, _, _, _, h1, _, _, h2⟩ => Nat.le_trans h1 h2.le
theorem Tro.mono {w : World} {B' : Nat} : ∀ {k : Fo} {b o lo B : Nat}, B ≤ B' → Tro w k b o lo B → Tro w k b o lo B'
  | .nil, _, _, _, _, hB, h => Nat.le_trans h hB
  | .node _ _ _ _ _, _, _, _, _, hB, ⟨h0, h1, h2, h3, h4, M, a, c, h5, h6, h7, h8⟩ => ⟨h0, h1, h2, h3, h4, M, a, c, h5, h6, h7, h8.mono hB⟩
theorem Tro.same {w w' : World} {L H : Nat} (hb : Same L H w w') : ∀ {k : Fo} {b o lo B : Nat}, L ≤ b → b < H → L ≤ lo → B ≤ H → Tro w k b o lo B → Tro w' k b o lo B
  | .nil, _, _, _, _, _, _, _, _, h => h
  | .node _ _ _ k r, b, o, lo, B, h1, h2, h3, h4, ⟨g0, ⟨x, hx⟩, ⟨y, hy⟩, f0, f1, M, a, c, g5, g6, g7, g8⟩ => by
    have hM := g8.le
    refine ⟨g0, ⟨x, by rw [hb.cell h1 h2]; exact hx⟩, ⟨y, by rw [hb.cell h1 h2]; exact hy⟩, by rw [frozen_same (hb b h1 h2)]; exact f0, ⟨by rw [frozen_same (hb b h1 h2)]; exact f1.1, by rw [frozen_same (hb b h1 h2)]; exact f1.2⟩, M, a, c, g5, by rw [hb.cell h1 h2]; exact g6, ?_, g8.same hb h1 h2 (by omega) h4⟩
    rcases g7 with g7 | ⟨b', e, e1, e2, g7⟩
    · exact .inl g7
    · exact .inr ⟨b', e, e1, e2, g7.same hb (by omega) (by omega) (by omega) (by omega)⟩
theorem TroS.same {w w' : World} {lo B : Nat} {a : Option Addr} {k : Fo} (hb : Same lo B w w') (h : TroS w lo B a k) : TroS w' lo B a k := by
  rcases h with h | ⟨b, e, h1, h2, h⟩
  · exact .inl h
  · exact .inr ⟨b, e, h1, h2, h.same hb h1 h2 (by omega) (Nat.le_refl _)⟩
theorem TroS.mono {w : World} {lo lo' B B' : Nat} {a : Option Addr} {k : Fo} (hlo : lo' ≤ lo) (hB : B ≤ B') (h : TroS w lo B a k) : TroS w lo' B' a k := by
  rcases h with h | ⟨b, e, h1, h2, h⟩
  · exact .inl h
  · exact .inr ⟨b, e, by omega, by omega, h.mono hB⟩

/-- What a kid of a tree's row is. -/
def TroAt (w : World) (k : Fo) (b o : Nat) (Ls : Nat → Nat) (i : Nat) : Prop :=
  ∃ x y s v kk a c, fdrop i k = .node x y (s, v) kk (fdrop (i + 1) k) ∧ (∃ z, w.cell? ⟨b, o + i * 3, none⟩ = some (.int .i64 z)) ∧ (∃ z, w.cell? ⟨b, o + i * 3 + 1, none⟩ = some (.int .i64 z)) ∧
    w.frozen? ⟨b, o + i * 3, none⟩ = false ∧ (w.frozen? ⟨b, o + i * 3 + 1, none⟩ = false ∧ w.frozen? ⟨b, o + i * 3 + 2, none⟩ = false) ∧ w.cell? ⟨b, o + i * 3 + 2, none⟩ = some (.slice a (flen kk) c) ∧ TroS w (Ls i) (Ls (i + 1)) a kk
theorem Tro.at {w : World} : ∀ {k : Fo} {b o lo B : Nat}, Tro w k b o lo B → ∃ Ls : Nat → Nat, Ls 0 = lo ∧ (∀ i, i < flen k → Ls i ≤ Ls (i + 1)) ∧ Ls (flen k) ≤ B ∧ (0 < flen k → b < lo) ∧ ∀ i, i < flen k → TroAt w k b o Ls i
  | .nil, _, _, lo, _, h => ⟨fun _ => lo, rfl, fun i hi => by simp [flen] at hi, h, fun hi => by simp [flen] at hi, fun i hi => by simp [flen] at hi⟩
  | .node x y (s, v) k r, b, o, lo, B, ⟨g0, hx, hy, f0, f1, M, a, c, g5, g6, g7, g8⟩ => by
    obtain ⟨Ls, e0, e1, e2, _, e3⟩ := g8.at
    refine ⟨fun i => match i with | 0 => lo | i + 1 => Ls i, rfl, fun i hi => ?_, by simpa [flen] using e2, fun _ => g0, fun i hi => ?_⟩
    · cases i with
      | zero => show lo ≤ Ls 0; omega
      | succ i => exact e1 i (by simp [flen] at hi; omega)
    · cases i with
      | zero =>
        refine ⟨x, y, s, v, k, a, c, rfl, by simpa using hx, by simpa using hy, by simpa using f0, by simpa using f1, by simpa using g6, ?_⟩
        show TroS w lo (Ls 0) a k
        rw [e0]
        exact g7
      | succ i =>
        obtain ⟨x', y', s', v', kk, a', c', d0, d1, d2, d3, d4, d5, d6⟩ := e3 i (by simp [flen] at hi; omega)
        have e3' : o + 3 + i * 3 = o + (i + 1) * 3 := by omega
        rw [e3'] at d1 d2 d3 d4 d5
        exact ⟨x', y', s', v', kk, a', c', d0, d1, d2, d3, d4, d5, d6⟩
theorem tro_of_all {w : World} : ∀ (k : Fo) (b o : Nat) (B : Nat) (Ls : Nat → Nat), (∀ i, i < flen k → Ls i ≤ Ls (i + 1)) → Ls (flen k) ≤ B → b < Ls 0 → (∀ i, i < flen k → TroAt w k b o Ls i) → Tro w k b o (Ls 0) B
  | .nil, _, _, _, _, _, h, _, _ => h
  | .node x y p kk r, b, o, B, Ls, h1, h2, h3, h => by
    obtain ⟨x', y', s, v, kk', a, c, e, d1, d2, d3, d4, d5, d6⟩ := h 0 (by simp [flen])
    simp only [fdrop, BT.node.injEq] at e
    obtain ⟨_, _, rfl, rfl, _⟩ := e
    have h01 : Ls 0 ≤ Ls 1 := h1 0 (by simp [flen])
    refine ⟨h3, by simpa using d1, by simpa using d2, by simpa using d3, by simpa using d4, Ls 1, a, c, h01, by simpa using d5, d6, ?_⟩
    have := tro_of_all r b (o + 3) B (fun i => Ls (i + 1)) (fun i hi => h1 (i + 1) (by simp [flen]; omega)) (by simpa [flen] using h2) (show b < Ls 1 by omega) fun i hi => by
      obtain ⟨x', y', s', v', kk', a', c', d0, d1, d2, d3, d4, d5, d6⟩ := h (i + 1) (by simp [flen]; omega)
      have e3' : o + (i + 1) * 3 = o + 3 + i * 3 := by omega
      rw [e3'] at d1 d2 d3 d4 d5
      exact ⟨x', y', s', v', kk', a', c', d0, d1, d2, d3, d4, d5, d6⟩
    exact this
end Go.Proofs.Ytoafleckcjanaaa

/-! OT: A term in memory of its own, one part of which is written over: rows whose blocks below lie apart, given by sets. Definitions and plain lemmas. -/
namespace Go.Proofs.Ytoafleckcjanaaa
open Go.RowKit Go.Deep

/-- The terms k lie in block b from offset o on; what is below them in blocks of P, the kids of one apart from those of the next. -/
def OwR (w : World) : Fo → Nat → Nat → (Nat → Prop) → Prop
  | .nil, _, _, _ => True
  | .node _ _ p k r, b, o, P => (w.cell? ⟨b, o, none⟩ = some (.int .i64 p.1) ∧ w.cell? ⟨b, o + 1, none⟩ = some (.int .i64 p.2)) ∧ (w.frozen? ⟨b, o, none⟩ = false ∧ w.frozen? ⟨b, o + 1, none⟩ = false ∧ w.frozen? ⟨b, o + 2, none⟩ = false) ∧
      ∃ (a : Option Addr) (c : Nat) (P1 P2 : Nat → Prop), (∀ x, P1 x → P x) ∧ (∀ x, P2 x → P x) ∧ (∀ x, P1 x → ¬ P2 x) ∧ w.cell? ⟨b, o + 2, none⟩ = some (.slice a (flen k) c) ∧
        (k = .nil ∨ ∃ (b' : Nat) (P3 : Nat → Prop), a = some ⟨b', 0, none⟩ ∧ P1 b' ∧ ¬ P3 b' ∧ (∀ x, P3 x → P1 x) ∧ OwR w k b' 0 P3) ∧ OwR w r b (o + 3) P2
/-- A slice's address at which the terms k lie so. -/
def OwS (w : World) (a : Option Addr) (k : Fo) (P : Nat → Prop) : Prop := k = .nil ∨ ∃ (b' : Nat) (P3 : Nat → Prop), a = some ⟨b', 0, none⟩ ∧ P b' ∧ ¬ P3 b' ∧ (∀ x, P3 x → P x) ∧ OwR w k b' 0 P3

theorem OwR.mono {w : World} : ∀ {k : Fo} {b o : Nat} {P P' : Nat → Prop}, (∀ x, P x → P' x) → OwR w k b o P → OwR w k b o P'
  | .nil, _, _, _, _, _, _ => trivial
  | .node _ _ _ _ _, _, _, _, _, h, ⟨h0, h1, a, c, P1, P2, g1, g2, g3, g4, g5, g6⟩ => ⟨h0, h1, a, c, P1, P2, fun x hx => h x (g1 x hx), fun x hx => h x (g2 x hx), g3, g4, g5, g6⟩
theorem OwS.mono {w : World} {a : Option Addr} {k : Fo} {P P' : Nat → Prop} (h : ∀ x, P x → P' x) (hs : OwS w a k P) : OwS w a k P' := by
  rcases hs with hs | ⟨b', P3, e, h1, h2, h3, h4⟩
  · exact .inl hs
  · exact .inr ⟨b', P3, e, h _ h1, h2, fun x hx => h x (h3 x hx), h4⟩
/-- What stays. -/
theorem OwR.keep {w w' : World} : ∀ {k : Fo} {b o : Nat} {P : Nat → Prop}, (∀ q : Addr, (P q.block ∨ (q.block = b ∧ o ≤ q.off)) → w'.cell? q = w.cell? q ∧ w'.frozen? q = w.frozen? q) → OwR w k b o P → OwR w' k b o P
  | .nil, _, _, _, _, _ => trivial
  | .node _ _ p k r, b, o, P, hk, ⟨⟨c0, c1⟩, ⟨f0, f1, f2⟩, a, c, P1, P2, g1, g2, g3, g4, g5, g6⟩ => by
    have k0 := hk ⟨b, o, none⟩ (.inr ⟨rfl, Nat.le_refl _⟩)
    have k1 := hk ⟨b, o + 1, none⟩ (.inr ⟨rfl, by simp⟩)
    have k2 := hk ⟨b, o + 2, none⟩ (.inr ⟨rfl, by simp⟩)
    refine ⟨⟨k0.1.trans c0, k1.1.trans c1⟩, ⟨k0.2.trans f0, k1.2.trans f1, k2.2.trans f2⟩, a, c, P1, P2, g1, g2, g3, k2.1.trans g4, ?_, OwR.keep (fun q hq => hk q ?_) g6⟩
    · rcases g5 with g5 | ⟨b', P3, e, h1, h2, h3, h4⟩
      · exact .inl g5
      · refine .inr ⟨b', P3, e, h1, h2, h3, OwR.keep (fun q hq => hk q (.inl ?_)) h4⟩
        rcases hq with hq | ⟨hq, _⟩
        · exact g1 _ (h3 _ hq)
        · rw [hq]; exact g1 _ h1
    · rcases hq with hq | ⟨hq, ho⟩
      · exact .inl (g2 _ hq)
      · exact .inr ⟨hq, by omega⟩
theorem OwS.keep {w w' : World} {a : Option Addr} {k : Fo} {P : Nat → Prop} (hk : ∀ q : Addr, P q.block → w'.cell? q = w.cell? q ∧ w'.frozen? q = w.frozen? q) (h : OwS w a k P) : OwS w' a k P := by
  rcases h with h | ⟨b', P3, e, h1, h2, h3, h4⟩
  · exact .inl h
  · refine .inr ⟨b', P3, e, h1, h2, h3, h4.keep fun q hq => hk q ?_⟩
    rcases hq with hq | ⟨hq, _⟩
    · exact h3 _ hq
    · rw [hq]; exact h1
/-- Such rows are rows. -/
theorem OwR.row {w : World} {lo B : Nat} : ∀ {k : Fo} {b o : Nat} {P : Nat → Prop}, (∀ x, P x → lo ≤ x ∧ x < B) → lo ≤ b → b < B → OwR w k b o P → Row w lo B k b o
  | .nil, _, _, _, _, _, _, _ => trivial
  | .node _ _ p k r, b, o, P, hP, hl, hB, ⟨⟨c0, c1⟩, _, a, c, P1, P2, g1, g2, g3, g4, g5, g6⟩ => by
    refine ⟨hl, hB, c0, c1, ⟨a, c, g4, ?_⟩, OwR.row (fun x hx => hP x (g2 x hx)) hl hB g6⟩
    rcases g5 with g5 | ⟨b', P3, e, h1, h2, h3, h4⟩
    · exact .inl g5
    · have hb := hP b' (g1 _ h1)
      exact .inr ⟨b', 0, e, OwR.row (fun x hx => hP x (g1 _ (h3 x hx))) hb.1 hb.2 h4⟩
theorem OwS.sl {w : World} {lo B : Nat} {a : Option Addr} {k : Fo} {P : Nat → Prop} (hP : ∀ x, P x → lo ≤ x ∧ x < B) (h : OwS w a k P) : Sl w lo B a k := by
  rcases h with h | ⟨b', P3, e, h1, h2, h3, h4⟩
  · exact .inl h
  · have hb := hP b' h1
    exact .inr ⟨b', 0, e, h4.row (fun x hx => hP x (h3 x hx)) hb.1 hb.2⟩
/-- Trees of one's own are such rows. -/
theorem ow_of_tr {w : World} {lo' B' : Nat} : ∀ {k : Fo} {b o lo B : Nat}, Tro w k b o lo B → Row w lo' B' k b o → OwR w k b o fun x => lo ≤ x ∧ x < B
  | .nil, _, _, _, _, _, _ => trivial
  | .node _ _ p k r, b, o, lo, B, ⟨h0, _, _, f0, f1, M, a, c, h5, h6, h7, h8⟩, ⟨_, _, c0, c1, ⟨a2, c2, d2, hk⟩, hr⟩ => by
    rw [h6] at d2
    simp only [Option.some.injEq, Value.slice.injEq, true_and] at d2
    obtain ⟨rfl, rfl⟩ := d2
    have hM := h8.le
    refine ⟨⟨c0, c1⟩, ⟨f0, f1.1, f1.2⟩, a, c, fun x => lo ≤ x ∧ x < M, fun x => M ≤ x ∧ x < B, fun x hx => ⟨hx.1, by omega⟩, fun x hx => ⟨by omega, hx.2⟩, fun x hx hx2 => by omega, h6, ?_, ow_of_tr h8 hr⟩
    rcases h7 with h7 | ⟨b', e, e1, e2, h7⟩
    · exact .inl h7
    · rcases hk with hk | ⟨b2, o2, e', hk⟩
      · exact .inl hk
      · rw [e] at e'
        simp only [Option.some.injEq, Addr.mk.injEq, and_true] at e'
        obtain ⟨rfl, rfl⟩ := e'
        exact .inr ⟨b', fun x => b' + 1 ≤ x ∧ x < M, e, ⟨e1, e2⟩, fun hx => by omega, fun x hx => ⟨by omega, hx.2⟩, ow_of_tr h7 hk⟩
theorem ow_of_trs {w : World} {lo B lo' B' : Nat} {a : Option Addr} {k : Fo} (ht : TroS w lo B a k) (hs : Sl w lo' B' a k) : OwS w a k fun x => lo ≤ x ∧ x < B := by
  rcases ht with ht | ⟨b, e, h1, h2, ht⟩
  · exact .inl ht
  · rcases hs with hs | ⟨b2, o2, e', hs⟩
    · exact .inl hs
    · rw [e] at e'
      simp only [Option.some.injEq, Addr.mk.injEq, and_true] at e'
      obtain ⟨rfl, rfl⟩ := e'
      exact .inr ⟨b, fun x => b + 1 ≤ x ∧ x < B, e, ⟨h1, h2⟩, fun hx => by omega, fun x hx => ⟨by omega, hx.2⟩, ow_of_tr ht hs⟩

/-- Where the way to a place leads from the term at (b, o). -/
def Way (w : World) : List Int → Nat → Nat → Nat → Nat → Prop
  | [], b, o, b', o' => b' = b ∧ o' = o
  | i :: ps, b, o, b', o' => ∃ b1 n c, w.cell? ⟨b, o + 2, none⟩ = some (.slice (some ⟨b1, 0, none⟩) n c) ∧ 0 ≤ i ∧ Way w ps b1 (i.toNat * 3) b' o'
theorem Way.snoc {w : World} : ∀ {ps : List Int} {b o b1 o1 b2 n c : Nat} {i : Int}, Way w ps b o b1 o1 → w.cell? ⟨b1, o1 + 2, none⟩ = some (.slice (some ⟨b2, 0, none⟩) n c) → 0 ≤ i → Way w (ps ++ [i]) b o b2 (i.toNat * 3)
  | [], _, _, _, _, b2, n, c, i, ⟨h1, h2⟩, hc, hi => by subst h1; subst h2; exact ⟨b2, n, c, hc, hi, rfl, rfl⟩
  | _ :: ps, _, _, _, _, _, _, _, _, ⟨b1, n, c, h1, h2, h3⟩, hc, hi => ⟨b1, n, c, h1, h2, Way.snoc h3 hc hi⟩

/-- The three cells of one part are written. -/
def st3 (w : World) (b o : Nat) (s v : Int) (a : Option Addr) (n c : Nat) : World := ((w.setCell ⟨b, o, none⟩ (.int .i64 s)).setCell ⟨b, o + 1, none⟩ (.int .i64 v)).setCell ⟨b, o + 2, none⟩ (.slice a n c)
theorem st3_far {w : World} {b o : Nat} {s v : Int} {a : Option Addr} {n c : Nat} {q : Addr} (h : q.block ≠ b ∨ q.off < o ∨ o + 3 ≤ q.off) : (st3 w b o s v a n c).cell? q = w.cell? q ∧ (st3 w b o s v a n c).frozen? q = w.frozen? q := by
  unfold st3
  refine ⟨?_, by rw [World.frozen?_setCell, World.frozen?_setCell, World.frozen?_setCell]⟩
  have hne : ∀ i, i ≤ 2 → (⟨b, o + i, none⟩ : Addr) ≠ q := fun i hi e => by
    subst e
    rcases h with h | h | h
    · exact h rfl
    · dsimp only at h; omega
    · dsimp only at h; omega
  rw [World.cell?_setCell_other _ _ _ _ (hne 2 (by omega)), World.cell?_setCell_other _ _ _ _ (hne 1 (by omega)), World.cell?_setCell_other _ _ _ _ (by simpa using hne 0 (by omega))]
theorem st3_in {w : World} {b o : Nat} {s v : Int} {a : Option Addr} {n c : Nat} {x y z : Value} (h0 : w.cell? ⟨b, o, none⟩ = some x) (h1 : w.cell? ⟨b, o + 1, none⟩ = some y) (h2 : w.cell? ⟨b, o + 2, none⟩ = some z) :
    (st3 w b o s v a n c).cell? ⟨b, o, none⟩ = some (.int .i64 s) ∧ (st3 w b o s v a n c).cell? ⟨b, o + 1, none⟩ = some (.int .i64 v) ∧ (st3 w b o s v a n c).cell? ⟨b, o + 2, none⟩ = some (.slice a n c) := by
  unfold st3
  refine ⟨?_, ?_, ?_⟩
  · rw [World.cell?_setCell_other _ _ _ _ (by simp), World.cell?_setCell_other _ _ _ _ (by simp)]; exact World.cell?_setCell_same _ _ _ h0
  · rw [World.cell?_setCell_other _ _ _ _ (by simp)]
    refine World.cell?_setCell_same (u := y) _ _ _ ?_
    rw [World.cell?_setCell_other _ _ _ _ (by simp)]; exact h1
  · refine World.cell?_setCell_same (u := z) _ _ _ ?_
    rw [World.cell?_setCell_other _ _ _ _ (by simp), World.cell?_setCell_other _ _ _ _ (by simp)]; exact h2
theorem st3_fr {w : World} {b o : Nat} {s v : Int} {a : Option Addr} {n c : Nat} {q : Addr} : (st3 w b o s v a n c).frozen? q = w.frozen? q := by
  unfold st3; rw [World.frozen?_setCell, World.frozen?_setCell, World.frozen?_setCell]

/-- A part is written over by a term in blocks apart: the whole is a term in memory of its own again, and what it is. -/
theorem OwR.put {w : World} {s2 v2 : Int} {a2 : Option Addr} {c2 : Nat} {k2 : Fo} {Q : Nat → Prop} {b' o' : Nat} (hq : OwS w a2 k2 Q) : ∀ (ps : List Int) (k : Fo) (b o : Nat) (P : Nat → Prop) (n : Nat) (x y : Nat) (s v : Int) (kk r : Fo) (z : Tm3), OwR w k b o P → ¬ P b → ¬ Q b → (∀ x, P x → ¬ Q x) →
    fdrop n k = .node x y (s, v) kk r → Way w ps b (o + n * 3) b' o' → fput s v kk ps (s2, v2, k2) = some z → (P b' ∨ (b' = b ∧ o ≤ o')) ∧ OwR (st3 w b' o' s2 v2 a2 (flen k2) c2) (fset k n z) b o fun x => P x ∨ Q x
  | ps, .nil, _, _, _, n, _, _, _, _, _, _, _, _, _, _, _, hd, _, _ => by cases n <;> simp [fdrop] at hd
  | ps, .node x0 y0 p k0 r0, b, o, P, n + 1, x, y, s, v, kk, r, z, ⟨⟨c0, c1⟩, ⟨f0, f1, f2⟩, a, c, P1, P2, g1, g2, g3, g4, g5, g6⟩, hPb, hQb, hPQ, hd, hw, hz => by
    have ih := OwR.put (c2 := c2) hq ps r0 b (o + 3) P2 n x y s v kk r z g6 (fun h => hPb (g2 _ h)) hQb (fun x hx => hPQ x (g2 x hx)) (by simpa [fdrop] using hd) (by rw [show o + 3 + n * 3 = o + (n + 1) * 3 from by omega]; exact hw) hz
    obtain ⟨hb', ih⟩ := ih
    have hne : ∀ x, P1 x → x ≠ b' := fun x hx e => by
      subst e
      rcases hb' with h | ⟨h, _⟩
      · exact g3 _ hx h
      · subst h; exact hPb (g1 _ hx)
    have hfar : b ≠ b' ∨ o + 2 < o' := by
      rcases hb' with h | ⟨_, h⟩
      · exact .inl fun e => by subst e; exact hPb (g2 _ h)
      · exact .inr (by omega)
    have kf : ∀ i, i ≤ 2 → (st3 w b' o' s2 v2 a2 (flen k2) c2).cell? ⟨b, o + i, none⟩ = w.cell? ⟨b, o + i, none⟩ ∧ (st3 w b' o' s2 v2 a2 (flen k2) c2).frozen? ⟨b, o + i, none⟩ = w.frozen? ⟨b, o + i, none⟩ := fun i hi => st3_far (by rcases hfar with h | h; exact .inl h; exact .inr (.inl (by show o + i < o'; omega)))
    refine ⟨?_, ⟨(kf 0 (by omega)).1.trans c0, (kf 1 (by omega)).1.trans c1⟩, ⟨(kf 0 (by omega)).2.trans f0, (kf 1 (by omega)).2.trans f1, (kf 2 (by omega)).2.trans f2⟩, a, c, P1, fun x => P2 x ∨ Q x, fun x hx => .inl (g1 x hx), fun x hx => hx.elim (fun h => .inl (g2 x h)) .inr, fun x hx hx2 => hx2.elim (g3 x hx) (hPQ x (g1 x hx)), (kf 2 (by omega)).1.trans g4, ?_, ih⟩
    · rcases hb' with h | ⟨h, h2⟩
      · exact .inl (g2 _ h)
      · exact .inr ⟨h, by omega⟩
    · rcases g5 with g5 | ⟨b3, P3, e, h1, h2, h3, h4⟩
      · exact .inl g5
      · refine .inr ⟨b3, P3, e, h1, h2, h3, h4.keep fun q hq2 => st3_far (.inl ?_)⟩
        rcases hq2 with hq2 | ⟨hq2, _⟩
        · exact hne _ (h3 _ hq2)
        · rw [hq2]; exact hne _ h1
  | [], .node x0 y0 p k0 r0, b, o, P, 0, x, y, s, v, kk, r, z, ⟨⟨c0, c1⟩, ⟨f0, f1, f2⟩, a, c, P1, P2, g1, g2, g3, g4, g5, g6⟩, hPb, hQb, hPQ, hd, hw, hz => by
    obtain ⟨e1, e2⟩ := hw
    rw [Nat.zero_mul, Nat.add_zero] at e2
    subst e1
    subst e2
    simp only [fput, Option.some.injEq] at hz
    subst hz
    obtain ⟨u0, u1, u2⟩ := st3_in (s := s2) (v := v2) (a := a2) (n := flen k2) (c := c2) c0 c1 g4
    have kQ : ∀ q : Addr, Q q.block → (st3 w b' o' s2 v2 a2 (flen k2) c2).cell? q = w.cell? q ∧ (st3 w b' o' s2 v2 a2 (flen k2) c2).frozen? q = w.frozen? q := fun q hq2 => st3_far (.inl fun e => by rw [e] at hq2; exact hQb hq2)
    refine ⟨.inr ⟨rfl, Nat.le_refl _⟩, ⟨u0, u1⟩, ⟨by rw [st3_fr]; exact f0, by rw [st3_fr]; exact f1, by rw [st3_fr]; exact f2⟩, a2, c2, Q, P2, fun x hx => .inr hx, fun x hx => .inl (g2 x hx), fun x hx hx2 => hPQ x (g2 x hx2) hx, u2, hq.keep kQ, g6.keep fun q hq2 => st3_far ?_⟩
    rcases hq2 with hq2 | ⟨_, hq2⟩
    · exact .inl fun e => by rw [e] at hq2; exact hPb (g2 _ hq2)
    · exact .inr (.inr hq2)
  | i :: ps, .node x0 y0 p k0 r0, b, o, P, 0, x, y, s, v, kk, r, z, ⟨⟨c0, c1⟩, ⟨f0, f1, f2⟩, a, c, P1, P2, g1, g2, g3, g4, g5, g6⟩, hPb, hQb, hPQ, hd, hw, hz => by
    simp only [fdrop, BT.node.injEq] at hd
    obtain ⟨rfl, rfl, rfl, rfl, rfl⟩ := hd
    obtain ⟨m, x1, y1, s1, v1, k1, z1, rfl, hm, hd1, hz1, rfl⟩ := fput_cons hz
    obtain ⟨b1, n1, d1, hc1, hi, hw⟩ := hw
    simp only [Nat.zero_mul, Nat.add_zero] at hc1
    rw [g4] at hc1
    simp only [Option.some.injEq, Value.slice.injEq] at hc1
    obtain ⟨rfl, _, _⟩ := hc1
    rcases g5 with g5 | ⟨b3, P3, e, h1, h2, h3, h4⟩
    · subst g5; simp [flen] at hm
    simp only [Option.some.injEq, Addr.mk.injEq, and_true] at e
    subst e
    have hb1 : b ≠ b1 := fun e => by subst e; exact hPb (g1 _ h1)
    have ih := OwR.put (c2 := c2) hq ps k0 b1 0 P3 m x1 y1 s1 v1 k1 _ z1 h4 h2 (hPQ _ (g1 _ h1)) (fun x hx => hPQ x (g1 _ (h3 x hx))) hd1 (by simpa using hw) hz1
    obtain ⟨hb', ih⟩ := ih
    have hb1' : P1 b' := by
      rcases hb' with h | ⟨h, _⟩
      · exact h3 _ h
      · rw [h]; exact h1
    have hbb : b ≠ b' := fun e => by subst e; exact hPb (g1 _ hb1')
    have kf : ∀ i, (st3 w b' o' s2 v2 a2 (flen k2) c2).cell? ⟨b, i, none⟩ = w.cell? ⟨b, i, none⟩ ∧ (st3 w b' o' s2 v2 a2 (flen k2) c2).frozen? ⟨b, i, none⟩ = w.frozen? ⟨b, i, none⟩ := fun i => st3_far (.inl hbb)
    refine ⟨.inl (g1 _ hb1'), ⟨(kf _).1.trans c0, (kf _).1.trans c1⟩, ⟨(kf _).2.trans f0, (kf _).2.trans f1, (kf _).2.trans f2⟩, some ⟨b1, 0, none⟩, c, fun x => P1 x ∨ Q x, P2, fun x hx => hx.elim (fun h => .inl (g1 x h)) .inr, fun x hx => .inl (g2 x hx), fun x hx hx2 => hx.elim (fun h => g3 x h hx2) (hPQ x (g2 x hx2)), ?_, ?_, g6.keep fun q hq2 => st3_far ?_⟩
    · rw [flen_set]; exact (kf _).1.trans g4
    · exact .inr ⟨b1, fun x => P3 x ∨ Q x, rfl, .inl h1, fun h => h.elim h2 (hPQ _ (g1 _ h1)), fun x hx => hx.elim (fun h => .inl (h3 x h)) .inr, ih⟩
    · rcases hq2 with hq2 | ⟨hq2, _⟩
      · exact .inl fun e => by rw [e] at hq2; exact g3 _ hb1' hq2
      · exact .inl fun e => hbb (by rw [← hq2, e])
termination_by ps k => (ps.length, fsz k)
decreasing_by all_goals (first | (simp_wf; simp only [fsz]; omega) | (simp_wf; omega) | (simp_wf; left; omega) | (simp_wf; right; simp only [fsz]; omega))
end Go.Proofs.Ytoafleckcjanaaa
