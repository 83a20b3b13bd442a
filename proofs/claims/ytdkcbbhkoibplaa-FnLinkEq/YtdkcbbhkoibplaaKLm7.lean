/- Several texts in one: A1, UM, WL0, A2, A3. -/
import Derived.Test.YtdkcbbhkoibplaaKLm5
import Derived.Test.YtdkcbbhkoibplaaKLm1
import Derived.Test.YtdkcbbhkoibplaaKLm4
import Derived.Test.YtdkcbbhkoibplaaKLm6
import Derived.Test.YtdkcbbhkoibplaaKLm3
import Derived.Deep.OwnRows

/-! A1: nodeAt: the node that stands at a place. -/
namespace Go.Proofs.Ytdkcbbhkoibplaa
open Go.RowKit Go.Deep

theorem isl_get {w : World} {lo B : Nat} {a : Option Addr} {xs : List Int} {i : Nat} (h : ISl w lo B a xs) (hi : i < xs.length) :
    ∃ b o, a = some ⟨b, o, none⟩ ∧ lo ≤ b ∧ b < B ∧ w.cell? ⟨b, o + i, none⟩ = some (.int .i64 xs[i]) := by
  rcases h with rfl | ⟨b, o, e, h1, h2, h3⟩
  · simp at hi
  · exact ⟨b, o, e, h1, h2, h3 i _ (List.getElem?_eq_getElem hi)⟩

/-- What stands at a place. -/
def fat : Int → Int → Fo → List Int → Option (Int × Int × Fo)
  | s, v, k, [] => some (s, v, k)
  | _, _, k, i :: ps => if 0 ≤ i ∧ i < (flen k : Int) then (match fdrop i.toNat k with
    | .node _ _ (s', v') kk _ => fat s' v' kk ps
    | .nil => none) else none

def NaPost (s v : Int) (k : Fo) (place : List Int) (w : World) (e : Ending) (w' : World) : Prop :=
  Below w.heap.size w w' ∧ ((∃ s' v' k' nv, fat s v k place = some (s', v', k') ∧ e = .returned (.tuple #[nv, .bool true]) ∧ NodeIs w 0 w.heap.size nv s' v' k') ∨ (fat s v k place = none ∧ e = .returned (.tuple #[.nilIface, .bool false])))

set_option maxRecDepth 100000 in
set_option maxHeartbeats 1000000 in
theorem nodeAt_any (s v : Int) (k : Fo) (nv : Value) (pA : Option Addr) (pC : Nat) (place : List Int) (w : World) (hn : NodeIs w 0 w.heap.size nv s v k) (hp : ISl w 0 w.heap.size pA place) (hpl : place.length ≤ 1048576) :
    Calls Try.prog 73 #[nv, .slice pA place.length pC] w (NaPost s v k place w) := by
  have HN := Lib.hid hn
  have HP := Lib.hid hp
  clear hn hp
  obtain ⟨ty, vv, rfl⟩ : ∃ ty vv, nv = .iface ty vv := by
    rcases HN.out with ⟨_, _, rfl⟩ | ⟨_, _, _, rfl, _⟩
    · exact ⟨_, _, rfl⟩
    · exact ⟨_, _, rfl⟩
  go_enter Try.func73, Try.ntmps73
  go_wp2_with fail
  go_loopw [0, 11] (fun t i wr => ∃ (j : Nat) (s' v' : Int) (k' : Fo) (ty' : TypeId) (vv' : Value), j ≤ place.length ∧ i = .int .i64 j ∧ t = .iface ty' vv' ∧ Hid (fat s v k place = fat s' v' k' (place.drop j)) ∧ NodeIs w 0 w.heap.size t s' v' k' ∧ Below w.heap.size w wr) (fun _ i _ => place.length - (intOf i).toNat)
  case atStart => exact ⟨0, s, v, k, ty, vv, by omega, rfl, rfl, by simp [Hid], HN.out, Below.refl _ _⟩
  case round =>
    obtain ⟨j, s', v', k', ty', vv', hj, rfl, rfl, hf, hn, hbl⟩ := hrel
    have hbs := hbl.size
    by_cases hlt : j < place.length
    · obtain ⟨b, o, rfl, _, hbB, hc⟩ := isl_get (HP.out.below hbl) hlt
      have hdr : place.drop j = place[j] :: place.drop (j + 1) := List.drop_eq_getElem_cons hlt
      rw [hdr] at hf
      generalize place[j] = x at hc hf
      have g1 : (0 : Int) ≤ (j : Int) := by omega
      have g2 : (j : Int) < (place.length : Int) := by omega
      have HF := Lib.hid hf.out
      have HNR := Lib.hid (hn.below hbl)
      have HNW := Lib.hid hn
      have HBL := Lib.hid hbl
      clear hf hn hbl hdr
      go_wp2_with fail
      with_reducible refine (kidsOf_any s' v' k' _ w.heap.size _ HNR.out).mono ?_
      rintro e w3 ⟨a3, c3, rfl, hb3, hns⟩
      have hs3 := hb3.size
      have HB3 := Lib.hid (HBL.out.trans (hb3.mono hbs))
      have HNS := Lib.hid (hns.below (hb3.mono hbs))
      clear hb3 hns
      by_cases hx0 : x < 0
      · have HE : Hid (fat s v k place = none) := by rw [Hid, HF.out]; simp only [fat]; rw [if_neg (by omega)]
        go_wp2_with fail
        go_ret2
        exact ⟨HB3.out, .inr ⟨HE.out, rfl⟩⟩
      by_cases hx1 : (flen k' : Int) ≤ x
      · have HE : Hid (fat s v k place = none) := by rw [Hid, HF.out]; simp only [fat]; rw [if_neg (by omega)]
        go_wp2_with fail
        go_ret2
        exact ⟨HB3.out, .inr ⟨HE.out, rfl⟩⟩
      obtain ⟨q, rfl⟩ : ∃ q : Nat, x = q := ⟨x.toNat, by omega⟩
      have hq : q < flen k' := by omega
      obtain ⟨bk, ok, rfl⟩ : ∃ bk ok, a3 = some ⟨bk, ok, none⟩ := by
        rcases HNS.out with rfl | ⟨b, o, rfl, _⟩
        · simp [flen] at hq
        · exact ⟨_, _, rfl⟩
      have hrow : NRow w3 0 w.heap.size k' bk ok := by
        rcases HNS.out with rfl | ⟨b, o, e, h⟩
        · simp [flen] at hq
        · cases e; exact h
      obtain ⟨s2, v2, kk, val, ⟨x2, y2, hd⟩, _, hbB2, hk0, hnk⟩ := nrow_at hrow hq
      obtain ⟨ty2, vv2, rfl⟩ : ∃ ty vv, val = .iface ty vv := by
        rcases hnk with ⟨_, _, rfl⟩ | ⟨_, _, _, rfl, _⟩
        · exact ⟨_, _, rfl⟩
        · exact ⟨_, _, rfl⟩
      have HE : Hid (fat s v k place = fat s2 v2 kk (place.drop (j + 1))) := by
        rw [Hid, HF.out]; simp only [fat]; rw [if_pos (by omega)]
        simp only [Int.toNat_natCast, hd]
      have HNK : Hid (NodeIs w 0 w.heap.size (.iface ty2 vv2) s2 v2 kk) := hnk.same (fun b _ hb => (HB3.out.block b hb).symm)
      clear hrow hd hnk
      go_wp2_with fail
      go_roundw
      case rel => exact ⟨j + 1, s2, v2, kk, ty2, vv2, by omega, by go_num, rfl, HE.out, HNK.out, HB3.out⟩
      case measure => simp [intOf]; omega
    · have HE : Hid (fat s v k place = some (s', v', k')) := by
        rw [Hid, hf.out, List.drop_eq_nil_of_le (by omega)]; rfl
      have HBL := Lib.hid hbl
      have HNW := Lib.hid hn
      clear hbl hn hf
      go_wp2_with fail
      go_ret2
      exact ⟨HBL.out, .inl ⟨s', v', k', _, HE.out, rfl, HNW.out⟩⟩
end Go.Proofs.Ytdkcbbhkoibplaa

/-! UM: A method called on an interface value. -/
namespace Go.Proofs.Ytdkcbbhkoibplaa
open Go.RowKit Go.Deep

/-- A method called on an interface value whose method is known. -/
theorem upon_method {P : Program} {o : Oper} {a : Act} {K : Act → World → Prop} {Q : Exit → Act → World → Prop} {n : Nat} {t : TypeId} {v : Value} {nm : String} {w : World} (f : FuncId) (h : (method n t v nm).run P w = .ok (f, v) w)
    (h1 : (callFunc f #[v]).run P w = .ok (.enter f #[v]) w) (h2 : o.upon P a K Q (.ok (.enter f #[v]) w)) : o.upon P a K Q (((method n t v nm).run P w).andThen fun x w' => (callFunc x.1 #[x.2]).run P w') := by
  rw [h]
  show o.upon P a K Q ((callFunc f #[v]).run P w)
  rw [h1]
  exact h2
end Go.Proofs.Ytdkcbbhkoibplaa

/-! WL0: size of a node. -/
namespace Go.Proofs.Ytdkcbbhkoibplaa
open Go.RowKit Go.Deep

set_option maxHeartbeats 400000 in
theorem varSize_any (v : Int) (w : World) :
    Calls Try.prog 141 #[.int .i64 v] w fun e w' => e = .returned (.int .i64 1) ∧ w = w' := by
  go_enter Try.func141, Try.ntmps141
  go_wp2_with fail
  go_ret
  exact ⟨rfl, rfl⟩

set_option maxRecDepth 100000 in
set_option maxHeartbeats 1000000 in
theorem symSize_any (N : Nat) : ∀ (s : Int) (a : Option Addr) (c : Nat) (k : Fo) (w : World), NSl w 0 w.heap.size a k → fsz k ≤ N → N ≤ 1000000 →
    Calls Try.prog 158 #[.agg #[.int .i64 s, .slice a (flen k) c]] w fun e w' => e = .returned (.int .i64 (1 + fsz k)) ∧ Below w.heap.size w w' := by
  induction N using Nat.strongRecOn with
  | _ N ih =>
    intro s a c k w hl hN hN2
    have hfl := flen_le_sz k
    have IH := Lib.hid ih
    clear ih
    go_enter Try.func158, Try.ntmps158
    go_wp2_with fail
    go_loopw [3, 9] (fun t i wr => ∃ (j : Nat) (m : Int), j ≤ flen k ∧ i = .int .i64 j ∧ t = .int .i64 m ∧ 0 ≤ m ∧ m ≤ 2000000 ∧ Hid (m + (fsz (fdrop j k) : Int) = 1 + fsz k) ∧ Below (w.heap.size + 1) (w.alloc (.cells #[.int .i64 s, .slice a (flen k) c] 165)) wr) (fun _ i _ => flen k - (intOf i).toNat)
    case atStart => exact ⟨0, 1, by omega, rfl, rfl, by omega, by omega, by simp [Hid, fdrop], Below.refl _ _⟩
    case round =>
      obtain ⟨j, m, hj, rfl, rfl, hm0, hm1, hm2, hbl⟩ := hrel
      have hsr := hbl.size
      simp at hsr
      by_cases hlt : j < flen k
      · rcases hl with rfl | ⟨b, o, rfl, hrow⟩
        · simp [flen] at hlt
        obtain ⟨s', v', kk, val, ⟨x, y, hd⟩, _, hbB, hk0, hn⟩ := nrow_at (hrow.below (after_top hbl)) hlt
        have hkN := fsz_kid hd
        have hd2 := fsz_drop j k
        rw [hd] at hd2
        simp only [fsz] at hd2
        have hm3 := hm2.out
        rw [hd] at hm3
        simp only [fsz] at hm3
        have HM := Lib.hid hm3
        have HBL := Lib.hid hbl
        clear hd hrow hm3 hm2 hbl
        rcases hn with ⟨hs', rfl, rfl⟩ | ⟨hs', a2, c2, rfl, hn2⟩
        · have HM1 : Hid (m + 1 + (fsz (fdrop (j + 1) k) : Int) = 1 + fsz k) := by have := HM.out; simp only [Hid, fsz] at this ⊢; omega
          go_wp2_with fail
          refine upon_method 141 (by kernel_rfl) (by kernel_rfl) ?_
          go_simp
          with_reducible refine (varSize_any v' _).mono ?_
          rintro e w2 ⟨rfl, rfl⟩
          go_wp2_with fail
          refine ⟨⟨j + 1, m + 1, by omega, by go_num, rfl, by omega, by have := HM1.out; omega, HM1, HBL.out⟩, ?_⟩
          simp [intOf]; omega
        · have HM1 : Hid (m + (1 + fsz kk) + (fsz (fdrop (j + 1) k) : Int) = 1 + fsz k) := by have := HM.out; simp only [Hid] at this ⊢; omega
          have HN2 := Lib.hid hn2
          clear hn2
          go_wp2_with fail
          refine upon_method 158 (by kernel_rfl) (by kernel_rfl) ?_
          go_simp
          with_reducible refine (IH.out (fsz kk) (by omega) s' a2 c2 kk _ ?_ (Nat.le_refl _) (by omega)).mono ?_
          · exact HN2.out.mono (Nat.le_refl _) (by omega)
          rintro e w2 ⟨rfl, hb2⟩
          have HB2 := Lib.hid (HBL.out.trans (hb2.mono (by omega)))
          clear hb2
          go_wp2_with fail
          refine ⟨⟨j + 1, m + (1 + fsz kk), by omega, by go_num, rfl, by omega, by have := HM1.out; omega, HM1, HB2.out⟩, ?_⟩
          simp [intOf]; omega
      · have hm3 := hm2.out
        rw [fdrop_all (by omega)] at hm3
        simp only [fsz] at hm3
        have HM : Hid (m = 1 + fsz k) := by simp only [Hid]; omega
        clear hm3 hm2
        go_wp2_with fail
        go_ret
        exact ⟨by rw [← HM.out]; rfl, after_top hbl⟩

end Go.Proofs.Ytdkcbbhkoibplaa

/-! A2: The term that a node stands for, made anew. -/
namespace Go.Proofs.Ytdkcbbhkoibplaa
open Go.RowKit Go.Deep
attribute [local go_sem ↓] Go.wp_at_zero Go.wp_at_succ

def TmPost (s v : Int) (k : Fo) (w : World) (e : Ending) (w' : World) : Prop :=
  ∃ a c, e = .returned (.agg #[.int .i64 s, .int .i64 v, .slice a (flen k) c]) ∧ Below w.heap.size w w' ∧ Sl w' w.heap.size w'.heap.size a k

set_option maxRecDepth 100000 in
set_option maxHeartbeats 1000000 in
theorem varTerm_any (v : Int) (w : World) : Calls Try.prog 142 #[.int .i64 v] w (TmPost 0 v .nil w) := by
  go_enter Try.func142, Try.ntmps142
  go_wp2_with fail
  refine bodyPost_ret (v := .agg #[.int .i64 0, .int .i64 v, .slice none 0 0]) ?_ rfl ⟨none, 0, rfl, (Below.refl _ _).alloc (Nat.le_refl _) _, .inl rfl⟩
  simp [results, Try.results142, go_sem]

theorem make_termsA (n : Nat) (hn : n ≤ 1048576) (w : World) :
    (Instr.makeSlice 33 (.int .i64 (n : Int)) (.int .i64 (n : Int))).run Try.prog w = .ok (.slice (some ⟨w.heap.size, 0, none⟩) n n) (w.alloc (.cells (madeCells #[.int .i64 0, .int .i64 0, .slice none 0 0] (n * 3)) 35)) := by
  obtain ⟨i, hi, hz, hs, hb⟩ := Try.infoTerm
  have := run_make (P := Try.prog) w 33 35 i _ Try.underlying33 hi hz .i64 .i64 (n : Int) (n : Int) (by omega) (by omega) (by rw [hb]; omega) (by omega)
  rw [hs] at this
  simpa [Value.cells] using this
theorem made_atA (n i : Nat) (z : Array Value) (h : i < n) : (madeCells z n)[i]? = some (z[i % z.size]!) := by simp [madeCells, h]

/-- What holds at the head of term's loop: the first j kids are made. -/
structure TmAt (w : World) (s : Int) (k : Fo) (j : Nat) (wr : World) : Prop where
  below : Below w.heap.size w wr
  size : w.heap.size + 4 ≤ wr.heap.size
  t0 : wr.cell? ⟨w.heap.size + 1 + 1, 0, none⟩ = some (.int .i64 s)
  t1 : wr.cell? ⟨w.heap.size + 1 + 1, 1, none⟩ = some (.int .i64 0)
  t2 : wr.cell? ⟨w.heap.size + 1 + 1, 2, none⟩ = some (.slice (some ⟨w.heap.size + 1 + 1 + 1, 0, none⟩) (flen k) (flen k))
  r0 : wr.cell? ⟨w.heap.size + 1, 0, none⟩ = some (.int .i64 0)
  r1 : wr.cell? ⟨w.heap.size + 1, 1, none⟩ = some (.int .i64 0)
  r2 : wr.cell? ⟨w.heap.size + 1, 2, none⟩ = some (.slice none 0 0)
  q0 : wr.frozen? ⟨w.heap.size + 1, 0, none⟩ = false
  q1 : wr.frozen? ⟨w.heap.size + 1, 1, none⟩ = false
  q2 : wr.frozen? ⟨w.heap.size + 1, 2, none⟩ = false
  row : ∃ f : Nat → Value, wr.rowIs (w.heap.size + 1 + 1 + 1) 35 (flen k * 3) f ∧ ∀ i, i < j → ∃ x y s v kk a c, fdrop i k = .node x y (s, v) kk (fdrop (i + 1) k) ∧
    f (i * 3) = .int .i64 s ∧ f (i * 3 + 1) = .int .i64 v ∧ f (i * 3 + 2) = .slice a (flen kk) c ∧ Sl wr (w.heap.size + 4) wr.heap.size a kk

theorem TmAt.start (w : World) (s : Int) (k : Fo) (x : Value) (y : Value) : TmAt w s k 0 ((((w.alloc (.cells #[x, y] 165)).alloc (.cells #[.int .i64 0, .int .i64 0, .slice none 0 0] 35)).alloc (.cells #[.int .i64 s, .int .i64 0, .slice (some ⟨w.heap.size + 1 + 1 + 1, 0, none⟩) (flen k) (flen k)] 35)).alloc (.cells (madeCells #[.int .i64 0, .int .i64 0, .slice none 0 0] (flen k * 3)) 35)) := by
  refine ⟨((((Below.refl _ _).alloc (Nat.le_refl _) _).alloc (by simp) _).alloc (by simp; omega) _).alloc (by simp; omega) _, by simp, ?_, ?_, ?_, ?_, ?_, ?_, ?_, ?_, ?_, ?_⟩
  · rw [World.cell?_alloc_lt _ _ _ (by simp), World.cell?_alloc_at _ _ _ _ (by simp)]; rfl
  · rw [World.cell?_alloc_lt _ _ _ (by simp), World.cell?_alloc_at _ _ _ _ (by simp)]; rfl
  · rw [World.cell?_alloc_lt _ _ _ (by simp), World.cell?_alloc_at _ _ _ _ (by simp)]; rfl
  · rw [World.cell?_alloc_lt _ _ _ (by simp), World.cell?_alloc_lt _ _ _ (by simp), World.cell?_alloc_at _ _ _ _ (by simp)]; rfl
  · rw [World.cell?_alloc_lt _ _ _ (by simp), World.cell?_alloc_lt _ _ _ (by simp), World.cell?_alloc_at _ _ _ _ (by simp)]; rfl
  · rw [World.cell?_alloc_lt _ _ _ (by simp), World.cell?_alloc_lt _ _ _ (by simp), World.cell?_alloc_at _ _ _ _ (by simp)]; rfl
  · rw [World.frozen?_alloc_past _ _ _ (by simp), World.frozen?_alloc_past _ _ _ (by simp), World.frozen?_alloc_at _ _ _ _ (by simp)]
  · rw [World.frozen?_alloc_past _ _ _ (by simp), World.frozen?_alloc_past _ _ _ (by simp), World.frozen?_alloc_at _ _ _ _ (by simp)]
  · rw [World.frozen?_alloc_past _ _ _ (by simp), World.frozen?_alloc_past _ _ _ (by simp), World.frozen?_alloc_at _ _ _ _ (by simp)]
  · refine ⟨fun i => #[Value.int .i64 0, .int .i64 0, .slice none 0 0][i % 3]!, ?_, fun i hi => by omega⟩
    have := World.rowIs_alloc (((w.alloc (.cells #[x, y] 165)).alloc (.cells #[.int .i64 0, .int .i64 0, .slice none 0 0] 35)).alloc (.cells #[.int .i64 s, .int .i64 0, .slice (some ⟨w.heap.size + 1 + 1 + 1, 0, none⟩) (flen k) (flen k)] 35)) (madeCells #[.int .i64 0, .int .i64 0, .slice none 0 0] (flen k * 3)) 35 (fun i => #[Value.int .i64 0, .int .i64 0, .slice none 0 0][i % 3]!) (fun i hi => by
      rw [size_madeCells] at hi
      exact made_atA _ _ _ hi)
    rw [size_madeCells] at this
    simp only [World.size_alloc] at this
    exact this
theorem TmAt.step {w wr w2 : World} {s0 : Int} {k : Fo} {j x y : Nat} {s v : Int} {kk : Fo} {a : Option Addr} {c : Nat} (h : TmAt w s0 k j wr) (hd : fdrop j k = .node x y (s, v) kk (fdrop (j + 1) k)) (hb : Below wr.heap.size wr w2) (hl : Sl w2 wr.heap.size w2.heap.size a kk) :
    TmAt w s0 k (j + 1) (((w2.setCell ⟨w.heap.size + 1 + 1 + 1, j * 3, none⟩ (.int .i64 s)).setCell ⟨w.heap.size + 1 + 1 + 1, j * 3 + 1, none⟩ (.int .i64 v)).setCell ⟨w.heap.size + 1 + 1 + 1, j * 3 + 2, none⟩ (.slice a (flen kk) c)) := by
  have hs := h.size
  have hs2 := hb.size
  obtain ⟨f, hf, hall⟩ := h.row
  have hf2 := hf.of_block (hb.block _ (by omega))
  have hsame : ∀ {L H : Nat}, w.heap.size + 3 < L → Same L H w2 (((w2.setCell ⟨w.heap.size + 1 + 1 + 1, j * 3, none⟩ (.int .i64 s)).setCell ⟨w.heap.size + 1 + 1 + 1, j * 3 + 1, none⟩ (.int .i64 v)).setCell ⟨w.heap.size + 1 + 1 + 1, j * 3 + 2, none⟩ (.slice a (flen kk) c)) := fun hL =>
    ((Same.setCell (fun _ _ _ => rfl) (.inl (by simp; omega)) _).setCell (.inl (by simp; omega)) _).setCell (.inl (by simp; omega)) _
  have hcell : ∀ {q : Addr} {u : Value}, wr.cell? q = some u → q.block < w.heap.size + 3 → (((w2.setCell ⟨w.heap.size + 1 + 1 + 1, j * 3, none⟩ (.int .i64 s)).setCell ⟨w.heap.size + 1 + 1 + 1, j * 3 + 1, none⟩ (.int .i64 v)).setCell ⟨w.heap.size + 1 + 1 + 1, j * 3 + 2, none⟩ (.slice a (flen kk) c)).cell? q = some u := fun {q u} hq hlt => by
    rw [World.cell?_setCell_other _ _ _ _ (by intro h'; have := congrArg Addr.block h'; simp at this; omega), World.cell?_setCell_other _ _ _ _ (by intro h'; have := congrArg Addr.block h'; simp at this; omega), World.cell?_setCell_other _ _ _ _ (by intro h'; have := congrArg Addr.block h'; simp at this; omega), hb.cell (World.block_lt_of_cell? _ _ hq)]
    exact hq
  have hfro : ∀ {q : Addr}, wr.frozen? q = false → q.block < w.heap.size + 3 → (((w2.setCell ⟨w.heap.size + 1 + 1 + 1, j * 3, none⟩ (.int .i64 s)).setCell ⟨w.heap.size + 1 + 1 + 1, j * 3 + 1, none⟩ (.int .i64 v)).setCell ⟨w.heap.size + 1 + 1 + 1, j * 3 + 2, none⟩ (.slice a (flen kk) c)).frozen? q = false := fun {q} hq hlt => by
    rw [World.frozen?_setCell, World.frozen?_setCell, World.frozen?_setCell, hb.frozen (by omega)]
    exact hq
  refine ⟨(((h.below.trans (hb.mono (by omega))).setCell (by simp; omega) _).setCell (by simp; omega) _).setCell (by simp; omega) _, by simp; omega, hcell h.t0 (by simp), hcell h.t1 (by simp), hcell h.t2 (by simp), hcell h.r0 (by simp), hcell h.r1 (by simp), hcell h.r2 (by simp), hfro h.q0 (by simp), hfro h.q1 (by simp), hfro h.q2 (by simp), ⟨_, ((hf2.set _ _).set _ _).set _ _, fun i hi => ?_⟩⟩
  by_cases hij : i = j
  · subst hij
    exact ⟨x, y, s, v, kk, a, c, hd, by simp, by simp, by simp, (hl.same (hsame (by omega))).mono (by omega) (by simp)⟩
  · obtain ⟨x', y', s', v', k', a', c', e, h0, h1, h2, hsl⟩ := hall i (by omega)
    refine ⟨x', y', s', v', k', a', c', e, ?_, ?_, ?_, ((hsl.same (fun b h1 h2 => hb.block b h2)).same (hsame (by omega))).mono (Nat.le_refl _) (by simp; omega)⟩
    · rw [if_neg (by omega), if_neg (by omega), if_neg (by omega)]; exact h0
    · rw [if_neg (by omega), if_neg (by omega), if_neg (by omega)]; exact h1
    · rw [if_neg (by omega), if_neg (by omega), if_neg (by omega)]; exact h2
theorem TmAt.sl {w wr : World} {s : Int} {k : Fo} {j : Nat} (h : TmAt w s k j wr) (hj : flen k ≤ j) : Sl wr (w.heap.size + 3) wr.heap.size (some ⟨w.heap.size + 1 + 1 + 1, 0, none⟩) k := by
  have hs := h.size
  obtain ⟨f, hf, hall⟩ := h.row
  refine .inr ⟨_, 0, rfl, row_of_all k _ 0 (by omega) (by omega) fun i hi => ?_⟩
  obtain ⟨x, y, s, v, kk, a, c, e, h0, h1, h2, hs⟩ := hall i (by omega)
  refine ⟨x, y, s, v, kk, a, c, e, ?_, ?_, ?_, hs.mono (by omega) (Nat.le_refl _)⟩
  · rw [Nat.zero_add, ← h0]; exact hf.cell (by omega)
  · rw [Nat.zero_add, ← h1]; exact hf.cell (by omega)
  · rw [Nat.zero_add, ← h2]; exact hf.cell (by omega)
theorem tm_end {w w1 : World} {s v : Int} {k : Fo} {a : Option Addr} {c : Nat} (hb : Below w.heap.size w w1) (hl : Sl w1 (w.heap.size + 3) w1.heap.size a k) (x y z : Value) :
    TmPost s v k w (.returned (.agg #[.int .i64 s, .int .i64 v, .slice a (flen k) c])) (((w1.setCell ⟨w.heap.size + 1, 0, none⟩ x).setCell ⟨w.heap.size + 1, 1, none⟩ y).setCell ⟨w.heap.size + 1, 2, none⟩ z) := by
  refine ⟨a, c, rfl, ((hb.setCell (by simp) _).setCell (by simp) _).setCell (by simp) _, ?_⟩
  have hs : Same (w.heap.size + 3) w1.heap.size w1 (((w1.setCell ⟨w.heap.size + 1, 0, none⟩ x).setCell ⟨w.heap.size + 1, 1, none⟩ y).setCell ⟨w.heap.size + 1, 2, none⟩ z) :=
    (((Same.setCell (fun _ _ _ => rfl) (.inl (by simp)) _).setCell (.inl (by simp)) _).setCell (.inl (by simp)) _)
  exact (hl.same hs).mono (by omega) (by simp)

set_option maxRecDepth 100000 in
set_option maxHeartbeats 1000000 in
theorem symTerm_any (N : Nat) : ∀ (s : Int) (a : Option Addr) (c : Nat) (k : Fo) (w : World), NSl w 0 w.heap.size a k → fok k = true → fsz k ≤ N → N ≤ 1000000 →
    Calls Try.prog 159 #[.agg #[.int .i64 s, .slice a (flen k) c]] w (TmPost s 0 k w) := by
  induction N using Nat.strongRecOn with
  | _ N ih =>
    intro s a c k w hl hok hN hN2
    have hfl := flen_le_sz k
    have IH := Lib.hid ih
    have HOK := Lib.hid hok
    clear ih hok
    by_cases h0 : flen k = 0
    · have hk : k = .nil := by
        cases k with
        | nil => rfl
        | node _ _ _ _ _ => simp [flen] at h0
      subst hk
      clear hl h0
      simp only [flen]
      go_enter Try.func159, Try.ntmps159
      go_wp2_with fail
      go_loopw [21] (fun i wr => i = .int .i64 0 ∧ wr = (((w.alloc (.cells #[.int .i64 s, .slice a 0 c] 165)).alloc (.cells #[.int .i64 0, .int .i64 0, .slice none 0 0] 35)).alloc (.cells #[.int .i64 s, .int .i64 0, .slice none 0 0] 35))) (fun _ _ => 0)
      case atStart => exact ⟨rfl, rfl⟩
      case round =>
        obtain ⟨rfl, rfl⟩ := hrel
        go_wp2_with fail
        refine bodyPost_ret (v := .agg #[.int .i64 s, .int .i64 0, .slice none 0 0]) ?_ rfl ⟨none, 0, rfl, (((Below.refl _ _).alloc (Nat.le_refl _) _).alloc (by simp) _).alloc (by simp; omega) _, .inl rfl⟩
        simp [results, Try.results159, go_sem]
    · have hmk := make_termsA (flen k) (by omega)
      have HST := Lib.hid (TmAt.start w s k (.int .i64 s) (.slice a (flen k) c))
      have hpos : 0 < flen k := by omega
      go_enter Try.func159, Try.ntmps159
      go_wp2_with fail
      clear hmk
      go_loopw [21] (fun i wr => ∃ j : Nat, j ≤ flen k ∧ i = .int .i64 j ∧ TmAt w s k j wr) (fun i _ => flen k - (intOf i).toNat)
      case atStart => exact ⟨0, by omega, rfl, HST.out⟩
      case round =>
        clear HST
        obtain ⟨j, hj, rfl, hat⟩ := hrel
        have hsr := hat.size
        by_cases hlt : j < flen k
        · rcases hl with rfl | ⟨b, o, rfl, hrow⟩
          · simp [flen] at hlt
          obtain ⟨s', v', kk, val, ⟨x, y, hd⟩, _, hbB, hk0, hn⟩ := nrow_at (hrow.below hat.below) hlt
          have hkN := fsz_kid hd
          have hkok := fok_kid HOK.out hd
          have ht2 := hat.t2
          have hu0 : ∀ u : After wr.heap.size wr, u.world.cell? ⟨w.heap.size + 1 + 1, 2, none⟩ = some (.slice (some ⟨w.heap.size + 1 + 1 + 1, 0, none⟩) (flen k) (flen k)) := fun u => u.cell (by simp; omega) ht2
          have g1 : (0 : Int) ≤ (j : Int) := by omega
          have g2 : (j : Int) < (flen k : Int) := by omega
          have HAT := Lib.hid hat
          have HD := Lib.hid hd
          clear hd hrow hat
          rcases hn with ⟨rfl, rfl, rfl⟩ | ⟨hs', a2, c2, rfl, hn2⟩
          · clear hkok
            go_wp2_with fail
            refine wp_region_mix (fun w' => ∃ u : After wr.heap.size wr, w' = u.world) [6] [(0, 0), (1, 0), (2, 0), (3, 0), (4, 1), (5, 1), (6, 2)] (by kernel_rfl) (by kernel_rfl) ⟨⟨_, (Below.refl _ _).drew⟩, rfl⟩ ?_
            iterate 4
              refine mix_see rfl (fun K hK => ?_)
              go_simp
              refine hK _ ?_
              clear hK K
            clear hu0
            refine mix_hold rfl (fun K hK => ?_)
            go_simp
            refine upon_method 142 (by kernel_rfl) (by kernel_rfl) ?_
            go_simp
            with_reducible refine (varTerm_any v' _).mono ?_
            rintro e w2 ⟨a2', c2', rfl, hb2', hl2⟩
            have hb2 : Below wr.heap.size wr w2 := bl_undrew hb2'
            obtain ⟨f, hf, _⟩ := HAT.out.row
            have hf2 := hf.of_block (hb2.block _ (by omega))
            have hg0 := hf2.cell (i := j * 3) (by omega)
            have hg1 := hf2.cell (i := j * 3 + 1) (by omega)
            have hg2 := hf2.cell (i := j * 3 + 2) (by omega)
            have hz0 := hf2.frozen (j * 3)
            have hz1 := hf2.frozen (j * 3 + 1)
            have hz2 := hf2.frozen (j * 3 + 2)
            have HSTEP := Lib.hid (HAT.out.step (c := c2') HD.out hb2 hl2)
            refine hK _ _ ⟨⟨_, hb2⟩, rfl⟩ ?_
            clear hK K hf hf2 hb2' hl2
            refine mix_hold rfl (fun K hK => ?_)
            go_simp
            refine hK _ _ ⟨⟨_, hb2⟩, rfl⟩ ?_
            clear hK K hb2
            refine mix_late rfl (fun K hK => ?_)
            go_simp
            refine hK _ _ ?_
            clear hK K
            refine mix_end ?_
            clear hg0 hg1 hg2 hz0 hz1 hz2 ht2 hk0
            go_wp2_with fail
            go_roundw
            case rel => exact ⟨j + 1, by omega, by go_num, HSTEP.out⟩
            case measure => simp [intOf]; omega
          · have hv0 : v' = 0 := ((okN_iff _ _ _).1 hkok.1).2.2 hs'
            subst hv0
            have HKK := Lib.hid hkok.2
            have HN2 := Lib.hid hn2
            clear hn2 hkok
            go_wp2_with fail
            refine wp_region_mix (fun w' => ∃ u : After wr.heap.size wr, w' = u.world) [6] [(0, 0), (1, 0), (2, 0), (3, 0), (4, 1), (5, 1), (6, 2)] (by kernel_rfl) (by kernel_rfl) ⟨⟨_, (Below.refl _ _).drew⟩, rfl⟩ ?_
            iterate 4
              refine mix_see rfl (fun K hK => ?_)
              go_simp
              refine hK _ ?_
              clear hK K
            clear hu0
            refine mix_hold rfl (fun K hK => ?_)
            go_simp
            refine upon_method 159 (by kernel_rfl) (by kernel_rfl) ?_
            go_simp
            with_reducible refine (IH.out (fsz kk) (by omega) s' a2 c2 kk _ ?_ HKK.out (Nat.le_refl _) (by omega)).mono ?_
            · exact (HN2.out.below (Below.refl _ _).drew).mono (Nat.le_refl _) (by simp; omega)
            rintro e w2 ⟨a2', c2', rfl, hb2', hl2⟩
            have hb2 : Below wr.heap.size wr w2 := bl_undrew hb2'
            obtain ⟨f, hf, _⟩ := HAT.out.row
            have hf2 := hf.of_block (hb2.block _ (by omega))
            have hg0 := hf2.cell (i := j * 3) (by omega)
            have hg1 := hf2.cell (i := j * 3 + 1) (by omega)
            have hg2 := hf2.cell (i := j * 3 + 2) (by omega)
            have hz0 := hf2.frozen (j * 3)
            have hz1 := hf2.frozen (j * 3 + 1)
            have hz2 := hf2.frozen (j * 3 + 2)
            have HSTEP := Lib.hid (HAT.out.step (c := c2') HD.out hb2 hl2)
            refine hK _ _ ⟨⟨_, hb2⟩, rfl⟩ ?_
            clear hK K hf hf2 hb2' hl2
            refine mix_hold rfl (fun K hK => ?_)
            go_simp
            refine hK _ _ ⟨⟨_, hb2⟩, rfl⟩ ?_
            clear hK K hb2
            refine mix_late rfl (fun K hK => ?_)
            go_simp
            refine hK _ _ ?_
            clear hK K
            refine mix_end ?_
            clear hg0 hg1 hg2 hz0 hz1 hz2 ht2 hk0
            go_wp2_with fail
            go_roundw
            case rel => exact ⟨j + 1, by omega, by go_num, HSTEP.out⟩
            case measure => simp [intOf]; omega
        · have hjk : j = flen k := by omega
          subst hjk
          have HDN := Lib.hid (fun x y z => tm_end (s := s) (v := 0) (c := flen k) hat.below (hat.sl (Nat.le_refl _)) x y z)
          have ht0 := hat.t0
          have ht1 := hat.t1
          have ht2 := hat.t2
          have hr0 := hat.r0
          have hr1 := hat.r1
          have hr2 := hat.r2
          have hq0 := hat.q0
          have hq1 := hat.q1
          have hq2 := hat.q2
          clear hat
          go_wp2_with fail
          refine bodyPost_ret (v := .agg #[.int .i64 s, .int .i64 0, .slice (some ⟨w.heap.size + 1 + 1 + 1, 0, none⟩) (flen k) (flen k)]) ?_ rfl (HDN.out _ _ _)
          simp [results, Try.results159, go_sem, hr0, hr1, hr2]
end Go.Proofs.Ytdkcbbhkoibplaa

/-! A3: impl.TermAt: what stands at a place of a term, made anew. -/
namespace Go.Proofs.Ytdkcbbhkoibplaa
open Go.RowKit Go.Deep

/-- TermAt's answer. -/
def atR (s v : Int) (k : Fo) (place : List Int) : Int × Int × Fo × Bool :=
  if okW s v k 16 = true then (match fat s v k place with
    | some (s', v', k') => (s', v', k', true)
    | none => (0, 0, .nil, false)) else (0, 0, .nil, false)

def AtPost (s v : Int) (k : Fo) (place : List Int) (w : World) (e : Ending) (w' : World) : Prop :=
  ∃ a c s' v' k' t, atR s v k place = (s', v', k', t) ∧ e = .returned (.tuple #[.agg #[.int .i64 s', .int .i64 v', .slice a (flen k') c], .bool t]) ∧ Below w.heap.size w w' ∧ Sl w' w.heap.size w'.heap.size a k'

theorem fat_ok : ∀ (place : List Int) (s v : Int) (k : Fo) {s' v' : Int} {k' : Fo}, okN s v (flen k) = true → fok k = true → fat s v k place = some (s', v', k') → okN s' v' (flen k') = true ∧ fok k' = true ∧ fsz k' ≤ fsz k
  | [], s, v, k, s', v', k', h1, h2, h => by
    simp only [fat, Option.some.injEq, Prod.mk.injEq] at h
    obtain ⟨rfl, rfl, rfl⟩ := h
    exact ⟨h1, h2, Nat.le_refl _⟩
  | i :: ps, s, v, k, s', v', k', h1, h2, h => by
    simp only [fat] at h
    split at h
    · split at h
      · rename_i x y s2 v2 kk r hd
        have hk := fok_kid h2 hd
        have hs := fsz_kid hd
        have := fat_ok ps s2 v2 kk hk.1 hk.2 h
        exact ⟨this.1, this.2.1, by omega⟩
      · cases h
    · cases h

theorem at_end {w w1 : World} {s v s' v' : Int} {k k' : Fo} {t : Bool} {place : List Int} {a : Option Addr} {c : Nat} (hr : atR s v k place = (s', v', k', t)) (hb : Below w.heap.size w w1) (hl : Sl w1 (w.heap.size + 2) w1.heap.size a k') (x y z : Value) :
    AtPost s v k place w (.returned (.tuple #[.agg #[.int .i64 s', .int .i64 v', .slice a (flen k') c], .bool t])) (((w1.setCell ⟨w.heap.size + 1, 0, none⟩ x).setCell ⟨w.heap.size + 1, 1, none⟩ y).setCell ⟨w.heap.size + 1, 2, none⟩ z) := by
  refine ⟨a, c, s', v', k', t, hr, rfl, ((hb.setCell (by simp) _).setCell (by simp) _).setCell (by simp) _, ?_⟩
  have hs : Same (w.heap.size + 2) w1.heap.size w1 (((w1.setCell ⟨w.heap.size + 1, 0, none⟩ x).setCell ⟨w.heap.size + 1, 1, none⟩ y).setCell ⟨w.heap.size + 1, 2, none⟩ z) :=
    (((Same.setCell (fun _ _ _ => rfl) (.inl (by simp)) _).setCell (.inl (by simp)) _).setCell (.inl (by simp)) _)
  exact (hl.same hs).mono (by omega) (by simp)

/-- The cells that hold TermAt's answer. -/
theorem at_cells {w w1 : World} {o : Obj} (hb : Below (w.heap.size + 2) ((w.alloc o).alloc (.cells #[.int .i64 0, .int .i64 0, .slice none 0 0] 35)) w1) :
    w1.cell? ⟨w.heap.size + 1, 0, none⟩ = some (.int .i64 0) ∧ w1.cell? ⟨w.heap.size + 1, 1, none⟩ = some (.int .i64 0) ∧ w1.cell? ⟨w.heap.size + 1, 2, none⟩ = some (.slice none 0 0) ∧
      w1.frozen? ⟨w.heap.size + 1, 0, none⟩ = false ∧ w1.frozen? ⟨w.heap.size + 1, 1, none⟩ = false ∧ w1.frozen? ⟨w.heap.size + 1, 2, none⟩ = false := by
  refine ⟨?_, ?_, ?_, ?_, ?_, ?_⟩
  · rw [hb.cell (by simp), World.cell?_alloc_at _ _ _ _ (by simp)]; rfl
  · rw [hb.cell (by simp), World.cell?_alloc_at _ _ _ _ (by simp)]; rfl
  · rw [hb.cell (by simp), World.cell?_alloc_at _ _ _ _ (by simp)]; rfl
  · rw [hb.frozen (by simp), World.frozen?_alloc_at _ _ _ _ (by simp)]
  · rw [hb.frozen (by simp), World.frozen?_alloc_at _ _ _ _ (by simp)]
  · rw [hb.frozen (by simp), World.frozen?_alloc_at _ _ _ _ (by simp)]

set_option maxRecDepth 100000 in
set_option maxHeartbeats 1000000 in
theorem iTermAt_any (s v : Int) (a : Option Addr) (c : Nat) (k : Fo) (pA : Option Addr) (pC : Nat) (place : List Int) (w : World) (hl : Sl w 0 w.heap.size a k) (hp : ISl w 0 w.heap.size pA place) (hpl : place.length ≤ 1048576) :
    Calls Try.prog 33 #[.agg #[.int .i64 s, .int .i64 v, .slice a (flen k) c], .slice pA place.length pC] w (AtPost s v k place w) := by
  have HL := Lib.hid hl
  have HP := Lib.hid hp
  clear hl hp
  have hb0 : Below w.heap.size w ((w.alloc (.cells #[.int .i64 s, .int .i64 v, .slice a (flen k) c] 35)).alloc (.cells #[.int .i64 0, .int .i64 0, .slice none 0 0] 35)) := ((Below.refl _ _).alloc (Nat.le_refl _) _).alloc (by simp) _
  have HB0 := Lib.hid hb0
  clear hb0
  cases hok : okW s v k 16 with
  | false =>
    have HR : Hid (atR s v k place = (0, 0, .nil, false)) := by unfold Hid atR; rw [hok]; rfl
    have HOK := Lib.hid hok
    clear hok
    go_enter Try.func33, Try.ntmps33
    go_wp2_with fail
    with_reducible refine (nodeOf_any s v a c k 16 _ ?_ (by omega) (by omega)).mono ?_
    · exact (HL.out.below HB0.out).mono (Nat.le_refl _) HB0.out.size
    rintro e w2 ⟨nv, he, hb, hyes⟩
    rw [HOK.out] at he
    subst he
    clear hyes
    have hb' := hb.mono (show w.heap.size + 2 ≤ _ by simp)
    obtain ⟨hr0, hr1, hr2, hq0, hq1, hq2⟩ := at_cells hb'
    have HB := Lib.hid (HB0.out.trans (hb.mono HB0.out.size))
    clear hb hb'
    go_wp2_with fail
    refine bodyPost_ret (v := .tuple #[.agg #[.int .i64 0, .int .i64 0, .slice none 0 0], .bool false]) ?_ rfl (at_end (k' := .nil) HR.out HB.out (.inl rfl) _ _ _)
    simp [results, Try.results33, go_sem, hr0, hr1, hr2]
  | true =>
    have HOK := Lib.hid hok
    have hsz := ((okW_iff _ _ _ _).1 hok).2.2
    clear hok
    go_enter Try.func33, Try.ntmps33
    go_wp2_with fail
    with_reducible refine (nodeOf_any s v a c k 16 _ ?_ (by omega) (by omega)).mono ?_
    · exact (HL.out.below HB0.out).mono (Nat.le_refl _) HB0.out.size
    rintro e w2 ⟨nv, he, hb, hyes⟩
    rw [HOK.out] at he
    subst he
    have HN := Lib.hid ((hyes HOK.out).mono (lo' := 0) (Nat.zero_le _) (Nat.le_refl _))
    have hs2 := hb.size
    simp at hs2
    have HB2' := Lib.hid (hb.mono (show w.heap.size + 2 ≤ _ by simp))
    have HB2 := Lib.hid (HB0.out.trans (hb.mono HB0.out.size))
    clear hyes hb
    obtain ⟨ty, vv, rfl⟩ : ∃ ty vv, nv = .iface ty vv := by
      rcases HN.out with ⟨_, _, rfl⟩ | ⟨_, _, _, rfl, _⟩
      · exact ⟨_, _, rfl⟩
      · exact ⟨_, _, rfl⟩
    go_wp2_with fail
    with_reducible refine (nodeAt_any s v k _ pA pC place _ HN.out ?_ hpl).mono ?_
    · exact (HP.out.below HB2.out).mono (Nat.le_refl _) HB2.out.size
    rintro e w3 ⟨hb3, hcase⟩
    have hs3 := hb3.size
    have HB3' := Lib.hid (HB2'.out.trans (hb3.mono (by omega)))
    have HB3 := Lib.hid (HB2.out.trans (hb3.mono (by omega)))
    rcases hcase with ⟨s', v', k', nv', hf, rfl, hn'⟩ | ⟨hf, rfl⟩
    · have HR : Hid (atR s v k place = (s', v', k', true)) := by unfold Hid atR; rw [HOK.out, hf]; rfl
      have hfo := fat_ok place s v k ((okW_iff _ _ _ _).1 HOK.out).1 ((okW_iff _ _ _ _).1 HOK.out).2.1 hf
      have HN' := Lib.hid (hn'.below hb3)
      clear hn' hb3 hf
      rcases HN'.out with ⟨rfl, rfl, rfl⟩ | ⟨hs', a2, c2, rfl, hn2⟩
      · clear HN' hfo
        go_wp2_with fail
        refine upon_method 142 (by kernel_rfl) (by kernel_rfl) ?_
        go_simp
        with_reducible refine (varTerm_any v' _).mono ?_
        rintro e w4 ⟨a4, c4, rfl, hb4, hl4⟩
        have hs4 := hb4.size
        obtain ⟨hr0, hr1, hr2, hq0, hq1, hq2⟩ := at_cells (HB3'.out.trans (hb4.mono (by omega)))
        have HB4 := Lib.hid (HB3.out.trans (hb4.mono (by omega)))
        have HL4 := Lib.hid (hl4.mono (lo' := w.heap.size + 2) (by omega) (Nat.le_refl _))
        clear hb4 hl4
        go_wp2_with fail
        refine bodyPost_ret (v := .tuple #[.agg #[.int .i64 0, .int .i64 v', .slice a4 (flen .nil) c4], .bool true]) ?_ rfl (at_end HR.out HB4.out HL4.out _ _ _)
        simp [results, Try.results33, go_sem, hr0, hr1, hr2]
      · have hv0 : v' = 0 := ((okN_iff _ _ _).1 hfo.1).2.2 hs'
        subst hv0
        have hk' := hfo.2.2
        have HKK := Lib.hid hfo.2.1
        have HN2 := Lib.hid hn2
        clear HN' hn2 hfo
        go_wp2_with fail
        refine upon_method 159 (by kernel_rfl) (by kernel_rfl) ?_
        go_simp
        with_reducible refine (symTerm_any (fsz k') s' a2 c2 k' _ ?_ HKK.out (Nat.le_refl _) (by omega)).mono ?_
        · exact HN2.out.mono (Nat.le_refl _) hs3
        rintro e w4 ⟨a4, c4, rfl, hb4, hl4⟩
        have hs4 := hb4.size
        obtain ⟨hr0, hr1, hr2, hq0, hq1, hq2⟩ := at_cells (HB3'.out.trans (hb4.mono (by omega)))
        have HB4 := Lib.hid (HB3.out.trans (hb4.mono (by omega)))
        have HL4 := Lib.hid (hl4.mono (lo' := w.heap.size + 2) (by omega) (Nat.le_refl _))
        clear hb4 hl4
        go_wp2_with fail
        refine bodyPost_ret (v := .tuple #[.agg #[.int .i64 s', .int .i64 0, .slice a4 (flen k') c4], .bool true]) ?_ rfl (at_end HR.out HB4.out HL4.out _ _ _)
        simp [results, Try.results33, go_sem, hr0, hr1, hr2]
    · have HR : Hid (atR s v k place = (0, 0, .nil, false)) := by unfold Hid atR; rw [HOK.out, hf]; rfl
      obtain ⟨hr0, hr1, hr2, hq0, hq1, hq2⟩ := at_cells HB3'.out
      clear hb3 hf
      go_wp2_with fail
      refine bodyPost_ret (v := .tuple #[.agg #[.int .i64 0, .int .i64 0, .slice none 0 0], .bool false]) ?_ rfl (at_end (k' := .nil) HR.out HB3.out (.inl rfl) _ _ _)
      simp [results, Try.results33, go_sem, hr0, hr1, hr2]
end Go.Proofs.Ytdkcbbhkoibplaa
