/- Several texts in one: S5, A3, S6, C1, PS, T0. -/
import Derived.Test.YtoafleckcjanaaaKLk10
import Derived.Test.YtoafleckcjanaaaKLk8
import Derived.Test.YtoafleckcjanaaaKLk4
import Derived.Test.YtoafleckcjanaaaKLk3
import Derived.Lib.Join
import Derived.Lib.ItoaNum

/-! S5: fold; apply. -/
namespace Go.Proofs.Ytoafleckcjanaaa
open Go.RowKit Go.Deep Go.Maps

set_option maxRecDepth 100000 in
theorem signOfS_any (s : Int) (a : Option Addr) (n c : Nat) (w : World) :
    Calls Try.prog 120 #[.iface 166 (.agg #[.int .i64 s, .slice a n c])] w fun e w' => e = .returned (.int .i64 s) ∧ Below w.heap.size w w' := by
  have hta := assert_var
  have htb := assert_sym
  go_enter Try.func120, Try.ntmps120
  go_wp2_with fail
  go_ret
  exact ⟨rfl, (Below.refl _ _).alloc (Nat.le_refl _) _⟩

set_option maxRecDepth 100000 in
set_option maxHeartbeats 2000000 in
theorem fold_any (bs : List Bd) (b : Nat) (N : Nat) : ∀ (s v : Int) (k : Fo) (nv : Value) (w : World), NodeIs w 0 w.heap.size nv s v k → MapIs w b bs → okN s v (flen k) = true → fok k = true → fsz k ≤ N → N ≤ 1000 →
    Calls Try.prog 112 #[nv, .func (.func 113) #[.map (some b)] #[], .func (.func 114) #[] #[]] w (NvPost (tsub (sv bs) s v k).1 (tsub (sv bs) s v k).2.1 (tsub (sv bs) s v k).2.2 w) := by
  induction N using Nat.strongRecOn with
  | _ N ih =>
    intro s v k nv w hn hm hok hfk hN hN2
    have IH := Lib.hid ih
    have HM := Lib.hid hm
    have HN := Lib.hid hn
    have HFK := Lib.hid hfk
    have hfl := flen_le_sz k
    have hta := assert_varV
    have htb := assert_symV
    clear ih hm hfk
    rcases hn with ⟨rfl, rfl, rfl⟩ | ⟨hs, a, c, rfl, hns⟩
    · have hv := ((okN_iff _ _ _).1 hok).2.1 rfl
      have HWF : Hid ((Lit.int .i64 v).wf = true) := WalkArith.wf_i64 (by omega)
      clear hok
      go_enter Try.func112, Try.ntmps112
      go_wp2_with fail
      with_reducible refine (valueOf_any bs b v _ HM.out HWF.out).mono ?_
      rintro e w1 ⟨nv1, rfl, hb1, hn1⟩
      have HB1 := Lib.hid hb1
      have HN1 := Lib.hid hn1
      clear hb1 hn1
      go_wp2_with fail
      go_ret
      exact ⟨nv1, rfl, HB1.out, HN1.out⟩
    · have HT : Hid (tsub (sv bs) s v k = (s, v, fsub (sv bs) k)) := by unfold Hid tsub; rw [if_neg hs]
      have hvs := ((okN_iff _ _ _).1 hok).2.2 hs
      clear hns hok
      go_enter Try.func112, Try.ntmps112
      go_wp2_with fail
      with_reducible refine (kidsOf_any s v k _ w.heap.size _ HN.out).mono ?_
      rintro e w1 ⟨ak, ck, rfl, hb1, hnk⟩
      have HB1 := Lib.hid hb1
      have HNK := Lib.hid hnk
      have hs1 := hb1.size
      have hmk := run_make_row' (P := Try.prog) 164 107 .nilIface 16 Try.underlying164 Try.infoNode rfl .i64 .i64 (flen k) (by omega) (by omega)
      have HST := Lib.hid (FoAt.start (σ := sv bs) hb1 (k := k) (by omega))
      clear hb1 hnk
      go_wp2_with fail
      go_loopw [29] (fun i wr => ∃ j : Nat, i = .int .i64 j ∧ j ≤ flen k ∧ Hid (FoAt w (sv bs) k w1.heap.size j wr)) (fun i _ => flen k - (intOf i).toNat)
      case atStart => exact ⟨0, rfl, Nat.zero_le _, HST⟩
      case round =>
        clear HST
        obtain ⟨j, rfl, hj, HF⟩ := hrel
        have hws := HF.out.below.size
        by_cases hlt : j < flen k
        · have hnr := HNK.out.below HF.out.below
          rcases hnr with rfl | ⟨kb, ko, rfl, hrow⟩
          · simp [flen] at hlt
          obtain ⟨s', v', kk, val, ⟨x, y, hd⟩, _, hbB, hk0, hnk⟩ := nrow_at hrow hlt
          have hkN := fsz_kid hd
          have hkid := fok_kid HFK.out hd
          have HC := Lib.hid (IH.out (fsz kk) (by omega) s' v' kk val wr (hnk.mono (Nat.le_refl _) hws) (HM.out.below HF.out.below) hkid.1 hkid.2 (Nat.le_refl _) (by omega))
          have HD := Lib.hid hd
          obtain ⟨vs, hown, hnil, _⟩ := HF.out.row
          have hlw := HF.out.lt
          have HOWN := Lib.hid hown
          have hcj0 := hnil j (Nat.le_refl _) hlt
          have HNJ := Lib.hid hcj0
          clear hnk hkid hd hrow hown hnil hcj0
          have g1 : (0 : Int) ≤ (j : Int) := by omega
          have g2 : (j : Int) < (flen k : Int) := by omega
          go_wp2_with fail
          with_reducible refine HC.out.mono ?_
          rintro e w2 ⟨nv2, rfl, hb2, hn2⟩
          obtain ⟨ty2, vv2, rfl⟩ : ∃ ty vv, nv2 = .iface ty vv := by
            rcases hn2 with ⟨_, _, rfl⟩ | ⟨_, _, _, rfl, _⟩
            · exact ⟨_, _, rfl⟩
            · exact ⟨_, _, rfl⟩
          have hown2 := own_low hb2 HOWN.out
          have hz : w2.cell? ⟨w1.heap.size, j, none⟩ = some .nilIface := by rw [hown2.cellAt j (by omega)]; exact HNJ.out
          have hf : w2.frozen? ⟨w1.heap.size, j, none⟩ = false := hown2.frozenAt j
          have HF2 := Lib.hid (HF.out.step hlt HD.out hb2 hn2)
          clear hb2 hn2 hown2 hk0 HC
          go_wp2_with fail
          go_roundw
          case rel => exact ⟨j + 1, by go_num, by omega, HF2⟩
          case measure => simp [intOf]; omega
        · have hjk : j = flen k := by omega
          subst hjk
          have HNS := Lib.hid HF.out.done
          have HBW := Lib.hid HF.out.below
          have hfl2 := fsub_len (sv bs) k
          go_wp2_with fail
          with_reducible refine (signOfS_any s a (flen k) c _).mono ?_
          rintro e w3 ⟨rfl, hb3⟩
          have HB3 := Lib.hid hb3
          clear hb3
          go_wp2_with fail
          with_reducible refine (symbolOf_any s (some ⟨w1.heap.size, 0, none⟩) (flen k) (flen k) _).mono ?_
          rintro e w4 ⟨rfl, rfl⟩
          have HP : Hid (NvPost (tsub (sv bs) s v k).1 (tsub (sv bs) s v k).2.1 (tsub (sv bs) s v k).2.2 w (.returned (.iface 166 (.agg #[.int .i64 s, .slice (some ⟨w1.heap.size, 0, none⟩) (flen k) (flen k)]))) w4) := by
            rw [Hid, HT.out]
            refine ⟨_, rfl, HBW.out.trans (HB3.out.mono hws), .inr ⟨hs, some ⟨w1.heap.size, 0, none⟩, flen k, by rw [hfl2], ?_⟩⟩
            exact (HNS.out.below HB3.out).mono (Nat.le_refl _) HB3.out.size
          clear hfl2
          go_wp2_with fail
          go_ret
          exact HP.out

set_option maxRecDepth 100000 in
theorem apply_any (bs : List Bd) (b : Nat) (s v : Int) (k : Fo) (nv : Value) (w : World) (hn : NodeIs w 0 w.heap.size nv s v k) (hm : MapIs w b bs) (hok : okN s v (flen k) = true) (hfk : fok k = true) (hN : fsz k ≤ 1000) :
    Calls Try.prog 99 #[.map (some b), nv] w (NvPost (tsub (sv bs) s v k).1 (tsub (sv bs) s v k).2.1 (tsub (sv bs) s v k).2.2 w) := by
  have HC := Lib.hid (fold_any bs b 1000 s v k nv w hn hm hok hfk hN (Nat.le_refl _))
  clear hn hm hok hfk
  go_enter Try.func99, Try.ntmps99
  go_wp2_with fail
  with_reducible refine HC.out.mono ?_
  rintro e w1 ⟨nv1, rfl, hb1, hn1⟩
  have HB1 := Lib.hid hb1
  have HN1 := Lib.hid hn1
  clear hb1 hn1
  go_wp2_with fail
  go_ret
  exact ⟨nv1, rfl, HB1.out, HN1.out⟩
end Go.Proofs.Ytoafleckcjanaaa

/-! A3: - impl.TermAt: what stands at a place of a term, made anew. -/
namespace Go.Proofs.Ytoafleckcjanaaa
open Go.RowKit Go.Deep

/-- TermAt's answer. -/
def atR (s v : Int) (k : Fo) (place : List Int) : Int × Int × Fo × Bool :=
  if okW s v k 16 = true then (match fat s v k place with
    | some (s', v', k') => (s', v', k', true)
    | none => (0, 0, .nil, false)) else (0, 0, .nil, false)

def AtPost (s v : Int) (k : Fo) (place : List Int) (w : World) (e : Ending) (w' : World) : Prop :=
  ∃ a c s' v' k' t, atR s v k place = (s', v', k', t) ∧ e = .returned (.tuple #[.agg #[.int .i64 s', .int .i64 v', .slice a (flen k') c], .bool t]) ∧ Below w.heap.size w w' ∧ Sl w' w.heap.size w'.heap.size a k'

theorem fat_ok : ∀ (place : List Int) (s v : Int) (k : Fo) {s' v' : Int} {k' : Fo}, okN s v (flen k) = true → fok k = true → fat s v k place = some (s', v', k') → okN s' v' (flen k') = true ∧ fok k' = true ∧ fsz k' ≤ fsz k
  | [], s, v, k, s', v', k', h1, h2, h => by
    simp only [fat, Option.some.injEq, Prod.mk.injEq] at h
    obtain ⟨rfl, rfl, rfl⟩ := h
    exact ⟨h1, h2, Nat.le_refl _⟩
  | i :: ps, s, v, k, s', v', k', h1, h2, h => by
    simp only [fat] at h
    split at h
    · split at h
      · rename_i x y s2 v2 kk r hd
        have hk := fok_kid h2 hd
        have hs := fsz_kid hd
        have := fat_ok ps s2 v2 kk hk.1 hk.2 h
        exact ⟨this.1, this.2.1, by omega⟩
      · cases h
    · cases h

theorem at_end {w w1 : World} {s v s' v' : Int} {k k' : Fo} {t : Bool} {place : List Int} {a : Option Addr} {c : Nat} (hr : atR s v k place = (s', v', k', t)) (hb : Below w.heap.size w w1) (hl : Sl w1 (w.heap.size + 2) w1.heap.size a k') (x y z : Value) :
    AtPost s v k place w (.returned (.tuple #[.agg #[.int .i64 s', .int .i64 v', .slice a (flen k') c], .bool t])) (((w1.setCell ⟨w.heap.size + 1, 0, none⟩ x).setCell ⟨w.heap.size + 1, 1, none⟩ y).setCell ⟨w.heap.size + 1, 2, none⟩ z) := by
  refine ⟨a, c, s', v', k', t, hr, rfl, ((hb.setCell (by simp) _).setCell (by simp) _).setCell (by simp) _, ?_⟩
  have hs : Same (w.heap.size + 2) w1.heap.size w1 (((w1.setCell ⟨w.heap.size + 1, 0, none⟩ x).setCell ⟨w.heap.size + 1, 1, none⟩ y).setCell ⟨w.heap.size + 1, 2, none⟩ z) :=
    (((Same.setCell (fun _ _ _ => rfl) (.inl (by simp)) _).setCell (.inl (by simp)) _).setCell (.inl (by simp)) _)
  exact (hl.same hs).mono (by omega) (by simp)

/-- The cells that hold TermAt's answer. -/
theorem at_cells {w w1 : World} {o : Obj} (hb : Below (w.heap.size + 2) ((w.alloc o).alloc (.cells #[.int .i64 0, .int .i64 0, .slice none 0 0] 35)) w1) :
    w1.cell? ⟨w.heap.size + 1, 0, none⟩ = some (.int .i64 0) ∧ w1.cell? ⟨w.heap.size + 1, 1, none⟩ = some (.int .i64 0) ∧ w1.cell? ⟨w.heap.size + 1, 2, none⟩ = some (.slice none 0 0) ∧
      w1.frozen? ⟨w.heap.size + 1, 0, none⟩ = false ∧ w1.frozen? ⟨w.heap.size + 1, 1, none⟩ = false ∧ w1.frozen? ⟨w.heap.size + 1, 2, none⟩ = false := by
  refine ⟨?_, ?_, ?_, ?_, ?_, ?_⟩
  · rw [hb.cell (by simp), World.cell?_alloc_at _ _ _ _ (by simp)]; rfl
  · rw [hb.cell (by simp), World.cell?_alloc_at _ _ _ _ (by simp)]; rfl
  · rw [hb.cell (by simp), World.cell?_alloc_at _ _ _ _ (by simp)]; rfl
  · rw [hb.frozen (by simp), World.frozen?_alloc_at _ _ _ _ (by simp)]
  · rw [hb.frozen (by simp), World.frozen?_alloc_at _ _ _ _ (by simp)]
  · rw [hb.frozen (by simp), World.frozen?_alloc_at _ _ _ _ (by simp)]

end Go.Proofs.Ytoafleckcjanaaa

/-! S6: - impl.SubstDo. -/
namespace Go.Proofs.Ytoafleckcjanaaa
open Go.RowKit Go.Deep Go.Maps

theorem fsub_sz {σ : Int → Option (Int × Int × Fo)} (h : ∀ x t, σ x = some t → fsz t.2.2 ≤ 15) : ∀ k : Fo, fsz (fsub σ k) ≤ 16 * fsz k
  | .nil => by simp [fsub, fsz]
  | .node _ _ p k r => by
    have h1 := fsub_sz h k
    have h2 := fsub_sz h r
    simp only [fsub]
    split
    · split
      · rename_i t ht
        have := h _ _ ht
        simp only [fsz]; omega
      · simp only [fsz]; omega
    · simp only [fsz]; omega
theorem fsub_ok {σ : Int → Option (Int × Int × Fo)} (h : ∀ x t, σ x = some t → okN t.1 t.2.1 (flen t.2.2) = true ∧ fok t.2.2 = true) : ∀ k : Fo, fok k = true → fok (fsub σ k) = true
  | .nil, _ => rfl
  | .node _ _ p k r, hk => by
    simp only [fok, Bool.and_eq_true] at hk
    have h1 := fsub_ok h k hk.1.2
    have h2 := fsub_ok h r hk.2
    simp only [fsub]
    split
    · split
      · rename_i t ht
        have := h _ _ ht
        simp only [fok, Bool.and_eq_true]
        exact ⟨⟨this.1, this.2⟩, h2⟩
      · simp only [fok, Bool.and_eq_true]
        exact ⟨⟨hk.1.1, hk.1.2⟩, h2⟩
    · simp only [fok, Bool.and_eq_true, fsub_len]
      exact ⟨⟨hk.1.1, h1⟩, h2⟩
theorem sv_ok {room : Int} : ∀ (bs : List Bd) (last : Int), sokFrom room last bs = true → ∀ x t, sv bs x = some t → okW t.1 t.2.1 t.2.2 room = true
  | [], _, _, _, _, h => by simp [sv] at h
  | y :: r, last, hs, x, t, h => by
    simp only [sokFrom, Bool.and_eq_true] at hs
    simp only [sv] at h
    split at h
    · obtain rfl := Option.some.inj h; exact hs.1
    · exact sv_ok r y.1 hs.2.2.2 x t h
/-- The answer of SubstDo. -/
def sdR (bs : List Bd) (s v : Int) (k : Fo) : Int × Int × Fo × Bool :=
  if sok 16 bs = true ∧ okW s v k 16 = true ∧ 1 + fsz (tsub (sv bs) s v k).2.2 ≤ 16 then ((tsub (sv bs) s v k).1, (tsub (sv bs) s v k).2.1, (tsub (sv bs) s v k).2.2, true) else (0, 0, .nil, false)
theorem tsub_ok {bs : List Bd} {s v : Int} {k : Fo} (hs : sok 16 bs = true) (ho : okW s v k 16 = true) : okN (tsub (sv bs) s v k).1 (tsub (sv bs) s v k).2.1 (flen (tsub (sv bs) s v k).2.2) = true ∧ fok (tsub (sv bs) s v k).2.2 = true ∧ fsz (tsub (sv bs) s v k).2.2 ≤ 1000 := by
  obtain ⟨o1, o2, o3⟩ := (okW_iff _ _ _ _).1 ho
  have hsv := sv_ok bs (-1) hs
  have h1 : ∀ x t, sv bs x = some t → okN t.1 t.2.1 (flen t.2.2) = true ∧ fok t.2.2 = true := fun x t ht => by have := (okW_iff _ _ _ _).1 (hsv x t ht); exact ⟨this.1, this.2.1⟩
  have h2 : ∀ x t, sv bs x = some t → fsz t.2.2 ≤ 15 := fun x t ht => by have := (okW_iff _ _ _ _).1 (hsv x t ht); omega
  unfold tsub
  by_cases e : s = 0
  · rw [if_pos e]
    cases ht : sv bs v with
    | none => exact ⟨o1, o2, by simp only [Option.getD]; omega⟩
    | some t => simp only [Option.getD]; exact ⟨(h1 v t ht).1, (h1 v t ht).2, by have := h2 v t ht; omega⟩
  · rw [if_neg e]
    refine ⟨by dsimp only; rw [fsub_len]; exact o1, fsub_ok h1 k o2, ?_⟩
    have := fsub_sz h2 k
    dsimp only; omega

def SdPost (bs : List Bd) (s v : Int) (k : Fo) (w : World) (e : Ending) (w' : World) : Prop :=
  ∃ a c s' v' k' t, sdR bs s v k = (s', v', k', t) ∧ e = .returned (.tuple #[.agg #[.int .i64 s', .int .i64 v', .slice a (flen k') c], .bool t]) ∧ Below w.heap.size w w' ∧ Sl w' w.heap.size w'.heap.size a k'
theorem tb_cellsS {w w' : World} {x y z x' y' z' : Value} {T T' : TypeId} (h : Below (w.heap.size + 2) ((w.alloc (.cells #[x, y, z] T)).alloc (.cells #[x', y', z'] T')) w') :
    w'.cell? ⟨w.heap.size, 0, none⟩ = some x ∧ w'.cell? ⟨w.heap.size, 1, none⟩ = some y ∧ w'.cell? ⟨w.heap.size, 2, none⟩ = some z ∧
      w'.cell? ⟨w.heap.size + 1, 0, none⟩ = some x' ∧ w'.cell? ⟨w.heap.size + 1, 1, none⟩ = some y' ∧ w'.cell? ⟨w.heap.size + 1, 2, none⟩ = some z' := by
  refine ⟨?_, ?_, ?_, ?_, ?_, ?_⟩
  · rw [h.cell (by simp), World.cell?_alloc_lt _ _ _ (by simp), World.cell?_alloc_at _ _ _ _ (by simp)]; rfl
  · rw [h.cell (by simp), World.cell?_alloc_lt _ _ _ (by simp), World.cell?_alloc_at _ _ _ _ (by simp)]; rfl
  · rw [h.cell (by simp), World.cell?_alloc_lt _ _ _ (by simp), World.cell?_alloc_at _ _ _ _ (by simp)]; rfl
  · rw [h.cell (by simp), World.cell?_alloc_at _ _ _ _ (by simp)]; rfl
  · rw [h.cell (by simp), World.cell?_alloc_at _ _ _ _ (by simp)]; rfl
  · rw [h.cell (by simp), World.cell?_alloc_at _ _ _ _ (by simp)]; rfl
theorem tb_freeS {w w' : World} {o o' : Obj} (h : Below (w.heap.size + 2) ((w.alloc o).alloc o') w') (j : Nat) {c c' : Array Value} {T T' : TypeId} (ho : o = .cells c T) (ho' : o' = .cells c' T') :
    w'.frozen? ⟨w.heap.size, j, none⟩ = false ∧ w'.frozen? ⟨w.heap.size + 1, j, none⟩ = false := by
  subst ho
  subst ho'
  constructor
  · rw [h.frozen (by simp), World.frozen?_alloc_past _ _ _ (by simp), World.frozen?_alloc_at _ _ _ _ (by simp)]
  · rw [h.frozen (by simp), World.frozen?_alloc_at _ _ _ _ (by simp)]


theorem sd_end {w w1 : World} {bs : List Bd} {s v s' v' : Int} {k k' : Fo} {t : Bool} {a : Option Addr} {c : Nat} {o o' : Obj} (hr : sdR bs s v k = (s', v', k', t)) (hb : Below (w.heap.size + 2) ((w.alloc o).alloc o') w1) (hl : Sl w1 (w.heap.size + 2) w1.heap.size a k') (x y z : Value) :
    SdPost bs s v k w (.returned (.tuple #[.agg #[.int .i64 s', .int .i64 v', .slice a (flen k') c], .bool t])) (((w1.setCell ⟨w.heap.size + 1, 0, none⟩ x).setCell ⟨w.heap.size + 1, 1, none⟩ y).setCell ⟨w.heap.size + 1, 2, none⟩ z) := by
  have h0 : Same (w.heap.size + 2) w1.heap.size w1 w1 := fun _ _ _ => rfl
  have hb' : Below w.heap.size w w1 := (((Below.refl _ _).alloc (Nat.le_refl _) o).alloc (by simp) o').trans (hb.mono (by omega))
  exact ⟨a, c, s', v', k', t, hr, rfl, ((hb'.setCell (by simp) _).setCell (by simp) _).setCell (by simp) _, (hl.same (((h0.setCell (.inl (by simp)) _).setCell (.inl (by simp)) _).setCell (.inl (by simp)) _)).mono (by omega) (by simp)⟩

end Go.Proofs.Ytoafleckcjanaaa

/-! C1: A term with another put to a place. Definitions and plain lemmas. -/
namespace Go.Proofs.Ytoafleckcjanaaa
open Go.RowKit Go.Deep

/-- The terms, the n-th of them another. -/
def fset : Fo → Nat → Int × Int × Fo → Fo
  | .nil, _, _ => .nil
  | .node b o _ _ r, 0, x => .node b o (x.1, x.2.1) x.2.2 r
  | .node b o p k r, n + 1, x => .node b o p k (fset r n x)
theorem flen_set : ∀ (k : Fo) (n : Nat) (x : Int × Int × Fo), flen (fset k n x) = flen k
  | .nil, _, _ => rfl
  | .node _ _ _ _ _, 0, _ => rfl
  | .node _ _ _ _ r, n + 1, x => by simp only [fset, flen, flen_set r n x]
theorem fset_at : ∀ (k : Fo) (n : Nat) (x : Int × Int × Fo), n < flen k → ∃ b o, fdrop n (fset k n x) = .node b o (x.1, x.2.1) x.2.2 (fdrop (n + 1) (fset k n x))
  | .nil, _, _, h => by simp [flen] at h
  | .node b o _ _ _, 0, _, _ => ⟨b, o, rfl⟩
  | .node _ _ _ _ r, n + 1, x, h => by
    obtain ⟨b, o, e⟩ := fset_at r n x (by simp [flen] at h; omega)
    exact ⟨b, o, by simp only [fset, fdrop]; exact e⟩
theorem fset_same : ∀ (k : Fo) (n : Nat) {b o : Nat} {s v : Int} {kk r : Fo}, fdrop n k = .node b o (s, v) kk r → fset k n (s, v, kk) = k
  | .nil, _, _, _, _, _, _, _, _ => rfl
  | .node _ _ _ _ _, 0, _, _, _, _, _, _, h => by
    simp only [fdrop, BT.node.injEq] at h
    obtain ⟨_, _, rfl, rfl, _⟩ := h
    rfl
  | .node _ _ _ _ r, n + 1, _, _, _, _, _, _, h => by simp only [fset]; rw [fset_same r n (by simpa [fdrop] using h)]
theorem fset_set : ∀ (k : Fo) (n : Nat) (x y : Int × Int × Fo), fset (fset k n x) n y = fset k n y
  | .nil, _, _, _ => rfl
  | .node _ _ _ _ _, 0, _, _ => rfl
  | .node _ _ _ _ r, n + 1, x, y => by simp only [fset, fset_set r n x y]
theorem fset_sz : ∀ (k : Fo) (n : Nat) (x : Int × Int × Fo) {b o : Nat} {p : Int × Int} {kk r : Fo}, fdrop n k = .node b o p kk r → fsz (fset k n x) + fsz kk = fsz k + fsz x.2.2
  | .nil, n, _, _, _, _, _, _, h => by cases n <;> simp [fdrop] at h
  | .node _ _ _ _ _, 0, _, _, _, _, _, _, h => by
    simp only [fdrop, BT.node.injEq] at h
    obtain ⟨_, _, rfl, rfl, _⟩ := h
    simp only [fset, fsz]; omega
  | .node _ _ _ _ r, n + 1, x, _, _, _, _, _, h => by
    have := fset_sz r n x (by simpa [fdrop] using h)
    simp only [fset, fsz]; omega
theorem fset_ok : ∀ (k : Fo) (n : Nat) (x : Int × Int × Fo), fok k = true → okN x.1 x.2.1 (flen x.2.2) = true → fok x.2.2 = true → fok (fset k n x) = true
  | .nil, _, _, _, _, _ => rfl
  | .node _ _ _ _ _, 0, _, h, h1, h2 => by
    simp only [fok, Bool.and_eq_true] at h
    simp only [fset, fok, h1, h2, h.2, Bool.and_true]
  | .node _ _ _ _ r, n + 1, x, h, h1, h2 => by
    simp only [fok, Bool.and_eq_true] at h
    simp only [fset, fok, h.1.1, h.1.2, fset_ok r n x h.2 h1 h2, Bool.and_true]
theorem fset_far : ∀ (k : Fo) (n m : Nat) (x : Int × Int × Fo) {b o : Nat} {p : Int × Int} {kk r : Fo}, n ≠ m → fdrop m k = .node b o p kk r → ∃ r', fdrop m (fset k n x) = .node b o p kk r'
  | .nil, _, m, _, _, _, _, _, _, _, h => by cases m <;> simp [fdrop] at h
  | .node _ _ _ _ _, 0, 0, _, _, _, _, _, _, hne, _ => absurd rfl hne
  | .node _ _ _ _ r, 0, m + 1, _, _, _, _, _, _, _, h => ⟨_, by simp only [fset, fdrop] at h ⊢; exact h⟩
  | .node _ _ _ _ r, n + 1, 0, x, _, _, _, _, _, _, h => by
    simp only [fdrop, BT.node.injEq] at h
    obtain ⟨rfl, rfl, rfl, rfl, _⟩ := h
    exact ⟨_, rfl⟩
  | .node _ _ _ _ r, n + 1, m + 1, x, _, _, _, _, _, hne, h => by
    obtain ⟨r', e⟩ := fset_far r n m x (by omega) (by simpa [fdrop] using h)
    exact ⟨r', by simp only [fset, fdrop]; exact e⟩

/-- What comes of it if x is put to a place. -/
def fput : Int → Int → Fo → List Int → Int × Int × Fo → Option (Int × Int × Fo)
  | _, _, _, [], x => some x
  | s, v, k, i :: ps, x => if 0 ≤ i ∧ i < (flen k : Int) then (match fdrop i.toNat k with
    | .node _ _ (s', v') kk _ => (fput s' v' kk ps x).map fun y => (s, v, fset k i.toNat y)
    | .nil => none) else none

/-- One step of it. -/
theorem fput_cons {s v : Int} {k : Fo} {i : Int} {ps : List Int} {x z : Int × Int × Fo} (h : fput s v k (i :: ps) x = some z) :
    ∃ (n b o : Nat) (s' v' : Int) (kk : Fo) (y : Int × Int × Fo), i = n ∧ n < flen k ∧ fdrop n k = .node b o (s', v') kk (fdrop (n + 1) k) ∧ fput s' v' kk ps x = some y ∧ z = (s, v, fset k n y) := by
  simp only [fput] at h
  split at h
  · rename_i hi
    obtain ⟨b, o, s', v', kk, e⟩ := fdrop_succ i.toNat k (by omega)
    rw [e] at h
    obtain ⟨y, hy, rfl⟩ := Option.map_eq_some_iff.1 h
    exact ⟨i.toNat, b, o, s', v', kk, y, by omega, by omega, e, hy, rfl⟩
  · cases h
theorem fput_step {s v : Int} {k : Fo} {n b o : Nat} {ps : List Int} {s' v' : Int} {kk r : Fo} {x y : Int × Int × Fo} (hn : n < flen k) (hd : fdrop n k = .node b o (s', v') kk r) (hy : fput s' v' kk ps x = some y) :
    fput s v k ((n : Int) :: ps) x = some (s, v, fset k n y) := by
  simp only [fput, Int.toNat_natCast]
  rw [if_pos (by omega), hd]
  simp only [hy, Option.map_some]
theorem fput_none {s v : Int} {k : Fo} {n b o : Nat} {ps : List Int} {s' v' : Int} {kk r : Fo} {x : Int × Int × Fo} (hd : fdrop n k = .node b o (s', v') kk r) (hy : fput s' v' kk ps x = none) :
    fput s v k ((n : Int) :: ps) x = none := by
  simp only [fput, Int.toNat_natCast]
  rw [hd]
  simp only [hy, Option.map_none]
  split <;> rfl
theorem fput_out {s v : Int} {k : Fo} {i : Int} {ps : List Int} {x : Int × Int × Fo} (h : ¬(0 ≤ i ∧ i < (flen k : Int))) : fput s v k (i :: ps) x = none := by
  simp only [fput]
  rw [if_neg h]
theorem fat_step {s v : Int} {k : Fo} {n b o : Nat} {ps : List Int} {s' v' : Int} {kk r : Fo} (hn : n < flen k) (hd : fdrop n k = .node b o (s', v') kk r) : fat s v k ((n : Int) :: ps) = fat s' v' kk ps := by
  simp only [fat, Int.toNat_natCast]
  rw [if_pos (by omega), hd]
theorem fat_out {s v : Int} {k : Fo} {i : Int} {ps : List Int} (h : ¬(0 ≤ i ∧ i < (flen k : Int))) : fat s v k (i :: ps) = none := by
  simp only [fat]
  rw [if_neg h]

/-- It can be put just where something stands. -/
theorem fput_there : ∀ (p : List Int) (s v : Int) (k : Fo) (x : Int × Int × Fo), (fput s v k p x).isSome = (fat s v k p).isSome
  | [], _, _, _, _ => rfl
  | i :: ps, s, v, k, x => by
    by_cases hi : 0 ≤ i ∧ i < (flen k : Int)
    · obtain ⟨b, o, s', v', kk, e⟩ := fdrop_succ i.toNat k (by omega)
      have hin : i = (i.toNat : Int) := by omega
      rw [hin, fat_step (by omega) e, ← fput_there ps s' v' kk x]
      cases hy : fput s' v' kk ps x with
      | none => rw [fput_none e hy]
      | some y => rw [fput_step (by omega) e hy]; rfl
    · rw [fput_out hi, fat_out hi]
/-- What is put is there. -/
theorem fput_at : ∀ (p : List Int) (s v : Int) (k : Fo) (x : Int × Int × Fo) {s' v' : Int} {k' : Fo}, fput s v k p x = some (s', v', k') → fat s' v' k' p = some x
  | [], _, _, _, _, _, _, _, h => by simp only [fput, Option.some.injEq] at h; subst h; rfl
  | i :: ps, s, v, k, x, s', v', k', h => by
    obtain ⟨n, b, o, s1, v1, kk, y, rfl, hn, hd, hy, e⟩ := fput_cons h
    simp only [Prod.mk.injEq] at e
    obtain ⟨rfl, rfl, rfl⟩ := e
    obtain ⟨b', o', e'⟩ := fset_at k n y hn
    rw [fat_step (by rw [flen_set]; exact hn) e']
    exact fput_at ps s1 v1 kk x hy
/-- To put what was there changes nothing. -/
theorem fput_same : ∀ (p : List Int) (s v : Int) (k : Fo) {x : Int × Int × Fo}, fat s v k p = some x → fput s v k p x = some (s, v, k)
  | [], _, _, _, _, h => by simp only [fat, Option.some.injEq] at h; subst h; rfl
  | i :: ps, s, v, k, x, h => by
    by_cases hi : 0 ≤ i ∧ i < (flen k : Int)
    · obtain ⟨b, o, s', v', kk, e⟩ := fdrop_succ i.toNat k (by omega)
      have hin : i = (i.toNat : Int) := by omega
      rw [hin, fat_step (by omega) e] at h
      rw [hin, fput_step (by omega) e (fput_same ps s' v' kk h), fset_same k _ e]
    · rw [fat_out hi] at h; cases h
/-- What is put last counts. -/
theorem fput_twice : ∀ (p : List Int) (s v : Int) (k : Fo) (x y : Int × Int × Fo) {s' v' : Int} {k' : Fo}, fput s v k p x = some (s', v', k') → fput s' v' k' p y = fput s v k p y
  | [], _, _, _, _, _, _, _, _, _ => rfl
  | i :: ps, s, v, k, x, y, s', v', k', h => by
    obtain ⟨n, b, o, s1, v1, kk, z, rfl, hn, hd, hz, e⟩ := fput_cons h
    simp only [Prod.mk.injEq] at e
    obtain ⟨rfl, rfl, rfl⟩ := e
    obtain ⟨b', o', e'⟩ := fset_at k n z hn
    have ih := fput_twice ps s1 v1 kk x y hz
    cases hq : fput s1 v1 kk ps y with
    | none => rw [fput_none hd hq, fput_none e' (by rw [ih]; exact hq)]
    | some q => rw [fput_step hn hd hq, fput_step (by rw [flen_set]; exact hn) e' (by rw [ih]; exact hq), fset_set]
/-- The room that it takes. -/
theorem fput_sz : ∀ (p : List Int) (s v : Int) (k : Fo) (x : Int × Int × Fo) {s' v' s0 v0 : Int} {k' k0 : Fo}, fput s v k p x = some (s', v', k') → fat s v k p = some (s0, v0, k0) → fsz k' + fsz k0 = fsz k + fsz x.2.2
  | [], _, _, _, _, _, _, _, _, _, _, h, h0 => by
    simp only [fput, Option.some.injEq] at h
    simp only [fat, Option.some.injEq, Prod.mk.injEq] at h0
    obtain ⟨_, _, rfl⟩ := h0
    subst h
    exact Nat.add_comm _ _
  | i :: ps, s, v, k, x, s', v', s0, v0, k', k0, h, h0 => by
    obtain ⟨n, b, o, s1, v1, kk, ⟨z1, z2, z3⟩, rfl, hn, hd, hz, e⟩ := fput_cons h
    simp only [Prod.mk.injEq] at e
    obtain ⟨rfl, rfl, rfl⟩ := e
    rw [fat_step hn hd] at h0
    have h1 := fput_sz ps s1 v1 kk x hz h0
    have h2 := fset_sz k n (z1, z2, z3) hd
    dsimp only at h2
    omega
theorem fput_ok : ∀ (p : List Int) (s v : Int) (k : Fo) (x : Int × Int × Fo) {s' v' : Int} {k' : Fo}, okN s v (flen k) = true → fok k = true → okN x.1 x.2.1 (flen x.2.2) = true → fok x.2.2 = true → fput s v k p x = some (s', v', k') →
    okN s' v' (flen k') = true ∧ fok k' = true
  | [], _, _, _, _, _, _, _, _, _, h3, h4, h => by simp only [fput, Option.some.injEq] at h; subst h; exact ⟨h3, h4⟩
  | i :: ps, s, v, k, x, s', v', k', h1, h2, h3, h4, h => by
    obtain ⟨n, b, o, s1, v1, kk, z, rfl, hn, hd, hz, e⟩ := fput_cons h
    simp only [Prod.mk.injEq] at e
    obtain ⟨rfl, rfl, rfl⟩ := e
    have hk := fok_kid h2 hd
    have ih := fput_ok ps s1 v1 kk x hk.1 hk.2 h3 h4 hz
    exact ⟨by rw [flen_set]; exact h1, fset_ok k n z h2 ih.1 ih.2⟩

/-- No one of two places begins with the other. -/
def apart : List Int → List Int → Bool
  | i :: ps, j :: qs => i != j || apart ps qs
  | _, _ => false
/-- What stands apart from it stays. -/
theorem fput_far : ∀ (p q : List Int) (s v : Int) (k : Fo) (x : Int × Int × Fo) {s' v' : Int} {k' : Fo} {y : Int × Int × Fo}, apart q p = true → fput s v k p x = some (s', v', k') → fat s v k q = some y → fat s' v' k' q = some y
  | [], [], _, _, _, _, _, _, _, _, h, _, _ => by simp [apart] at h
  | [], _ :: _, _, _, _, _, _, _, _, _, h, _, _ => by simp [apart] at h
  | _ :: _, [], _, _, _, _, _, _, _, _, h, _, _ => by simp [apart] at h
  | i :: ps, j :: qs, s, v, k, x, s', v', k', y, ha, h, hq => by
    obtain ⟨n, b, o, s1, v1, kk, z, rfl, hn, hd, hz, e⟩ := fput_cons h
    simp only [Prod.mk.injEq] at e
    obtain ⟨rfl, rfl, rfl⟩ := e
    by_cases hj : 0 ≤ j ∧ j < (flen k : Int)
    · obtain ⟨m, rfl⟩ : ∃ m : Nat, j = m := ⟨j.toNat, by omega⟩
      obtain ⟨b2, o2, s2, v2, k2, e2⟩ := fdrop_succ m k (by omega)
      by_cases hne : n = m
      · subst hne
        obtain ⟨b', o', e'⟩ := fset_at k n z hn
        rw [fat_step hn hd] at hq
        rw [fat_step (by rw [flen_set]; exact hn) e']
        refine fput_far ps qs s1 v1 kk x ?_ hz hq
        simpa [apart] using ha
      · obtain ⟨r', e'⟩ := fset_far k n m z hne e2
        rw [fat_step (by omega) e2] at hq
        rw [fat_step (by rw [flen_set]; omega) e']
        exact hq
    · rw [fat_out hj] at hq; cases hq

/-- TermPut's answer. -/
def putR (s v : Int) (k : Fo) (place : List Int) (x : Int × Int × Fo) : Int × Int × Fo × Bool :=
  if okW s v k 16 = true ∧ okW x.1 x.2.1 x.2.2 16 = true then (match fput s v k place x with
    | some (s', v', k') => if 1 + fsz k' ≤ 16 then (s', v', k', true) else (0, 0, .nil, false)
    | none => (0, 0, .nil, false)) else (0, 0, .nil, false)
theorem putR_true {s v : Int} {k : Fo} {place : List Int} {x : Int × Int × Fo} {s' v' : Int} {k' : Fo} (h : putR s v k place x = (s', v', k', true)) :
    okW s v k 16 = true ∧ okW x.1 x.2.1 x.2.2 16 = true ∧ fput s v k place x = some (s', v', k') ∧ okW s' v' k' 16 = true := by
  unfold putR at h
  split at h
  · rename_i hok
    split at h
    · rename_i s2 v2 k2 hf
      split at h
      · rename_i hsz
        simp only [Prod.mk.injEq] at h
        obtain ⟨rfl, rfl, rfl, _⟩ := h
        have h1 := (okW_iff _ _ _ _).1 hok.1
        have h2 := (okW_iff _ _ _ _).1 hok.2
        have h3 := fput_ok place s v k x h1.1 h1.2.1 h2.1 h2.2.1 hf
        exact ⟨hok.1, hok.2, hf, (okW_iff _ _ _ _).2 ⟨h3.1, h3.2, by omega⟩⟩
      · simp at h
    · simp at h
  · simp at h
theorem putR_some {s v : Int} {k : Fo} {place : List Int} {x : Int × Int × Fo} {s' v' : Int} {k' : Fo} (h1 : okW s v k 16 = true) (h2 : okW x.1 x.2.1 x.2.2 16 = true) (h3 : fput s v k place x = some (s', v', k')) (h4 : 1 + fsz k' ≤ 16) :
    putR s v k place x = (s', v', k', true) := by
  unfold putR
  rw [if_pos ⟨h1, h2⟩, h3]
  dsimp only
  rw [if_pos h4]
theorem putR_sz {s v : Int} {k : Fo} {place : List Int} {x : Int × Int × Fo} {s' v' : Int} {k' : Fo} {t : Bool} (h : putR s v k place x = (s', v', k', t)) : fsz k' ≤ 15 := by
  cases t with
  | true => have := (okW_iff _ _ _ _).1 (putR_true h).2.2.2; omega
  | false =>
    unfold putR at h
    split at h
    · split at h
      · split at h
        · simp at h
        · simp only [Prod.mk.injEq] at h; obtain ⟨_, _, rfl, _⟩ := h; simp [fsz]
      · simp only [Prod.mk.injEq] at h; obtain ⟨_, _, rfl, _⟩ := h; simp [fsz]
    · simp only [Prod.mk.injEq] at h; obtain ⟨_, _, rfl, _⟩ := h; simp [fsz]
end Go.Proofs.Ytoafleckcjanaaa

/-! PS: What is put into terms, plain: parts, places, sizes, variables. -/
namespace Go.Proofs.Ytoafleckcjanaaa
open Go.RowKit Go.Deep

theorem fsub_id {σ : Int → Option (Int × Int × Fo)} : ∀ k : Fo, (∀ x ∈ fvl k, σ x = none) → fsub σ k = k
  | .nil, _ => rfl
  | .node x y p k r, h => by
    simp only [fvl, List.mem_append] at h
    have hr := fsub_id r (fun z hz => h z (.inr hz))
    simp only [fsub]
    by_cases e : p.1 = 0
    · have h0 := h p.2 (.inl (by rw [if_pos e]; simp))
      rw [if_pos e, h0, hr]
    · rw [if_neg e, fsub_id k (fun z hz => h z (.inl (by rw [if_neg e]; exact hz))), hr]
theorem tsub_id {σ : Int → Option (Int × Int × Fo)} {s v : Int} {k : Fo} (h : ∀ x ∈ fvs s v k, σ x = none) : tsub σ s v k = (s, v, k) := by
  unfold tsub
  unfold fvs at h
  by_cases e : s = 0
  · rw [if_pos e] at h ⊢
    rw [h v (by simp)]; rfl
  · rw [if_neg e] at h ⊢
    rw [fsub_id k h]
theorem tsub_nil (s v : Int) (k : Fo) : tsub (sv []) s v k = (s, v, k) := tsub_id fun _ _ => rfl

theorem sdR_nil {s v : Int} {k : Fo} (h : okW s v k 16 = true) : sdR [] s v k = (s, v, k, true) := by
  unfold sdR
  rw [tsub_nil, if_pos ⟨rfl, h, by have := ((okW_iff _ _ _ _).1 h).2.2; dsimp only; omega⟩]
theorem sdR_cases {bs : List Bd} {s v : Int} {k : Fo} {s' v' : Int} {k' : Fo} {t : Bool} (h : sdR bs s v k = (s', v', k', t)) :
    (t = false ∧ s' = 0 ∧ v' = 0 ∧ k' = .nil) ∨ (t = true ∧ sok 16 bs = true ∧ okW s v k 16 = true ∧ tsub (sv bs) s v k = (s', v', k') ∧ okW s' v' k' 16 = true) := by
  unfold sdR at h
  split at h
  · rename_i hc
    simp only [Prod.mk.injEq] at h
    obtain ⟨rfl, rfl, rfl, rfl⟩ := h
    have ht := tsub_ok hc.1 hc.2.1
    exact .inr ⟨rfl, hc.1, hc.2.1, rfl, (okW_iff _ _ _ _).2 ⟨ht.1, ht.2.1, by have := hc.2.2; omega⟩⟩
  · simp only [Prod.mk.injEq] at h
    obtain ⟨rfl, rfl, rfl, rfl⟩ := h
    exact .inl ⟨rfl, rfl, rfl, rfl⟩
theorem sdR_sz {bs : List Bd} {s v : Int} {k : Fo} {s' v' : Int} {k' : Fo} {t : Bool} (h : sdR bs s v k = (s', v', k', t)) : fsz k' ≤ 15 := by
  rcases sdR_cases h with ⟨_, _, _, rfl⟩ | ⟨_, _, _, _, ho⟩
  · simp [fsz]
  · have := ((okW_iff _ _ _ _).1 ho).2.2; omega
theorem sdR_of {bs : List Bd} {s v : Int} {k : Fo} {s' v' : Int} {k' : Fo} (h1 : sok 16 bs = true) (h2 : okW s v k 16 = true) (h3 : tsub (sv bs) s v k = (s', v', k')) (h4 : 1 + fsz k' ≤ 16) : sdR bs s v k = (s', v', k', true) := by
  unfold sdR
  rw [h3, if_pos ⟨h1, h2, h4⟩]
theorem sdR_big {bs : List Bd} {s v : Int} {k : Fo} {s' v' : Int} {k' : Fo} (h3 : tsub (sv bs) s v k = (s', v', k')) (h4 : ¬ 1 + fsz k' ≤ 16) : sdR bs s v k = (0, 0, .nil, false) := by
  unfold sdR
  rw [h3, if_neg fun h => h4 h.2.2]

theorem kids_none {v : Int} {k : Fo} (h : okN 0 v (flen k) = true) : k = .nil := by
  have h1 := ((okN_iff _ _ _).1 h).1
  cases k with
  | nil => rfl
  | node _ _ _ _ r => simp [flen, ar] at h1; omega
theorem sign_of_kid {s v : Int} {k : Fo} {n : Nat} (h : okN s v (flen k) = true) (hn : n < flen k) : s ≠ 0 := by
  rintro rfl
  rw [kids_none h] at hn
  simp [flen] at hn

theorem fat_sub (σ : Int → Option (Int × Int × Fo)) : ∀ (p : List Int) (s v : Int) (k : Fo) {s' v' : Int} {k' : Fo}, okN s v (flen k) = true → fok k = true → fat s v k p = some (s', v', k') →
    fat (tsub σ s v k).1 (tsub σ s v k).2.1 (tsub σ s v k).2.2 p = some (tsub σ s' v' k')
  | [], s, v, k, s', v', k', _, _, h => by
    simp only [fat, Option.some.injEq, Prod.mk.injEq] at h
    obtain ⟨rfl, rfl, rfl⟩ := h
    rfl
  | i :: ps, s, v, k, s', v', k', ho, hk, h => by
    rw [fat] at h
    split at h
    · rename_i hi
      obtain ⟨x, y, s1, v1, kk, hd⟩ := fdrop_succ i.toNat k (by omega)
      rw [hd] at h
      dsimp only at h
      have hs := sign_of_kid ho (n := i.toNat) (by omega)
      have hkk := fok_kid hk hd
      have ih := fat_sub σ ps s1 v1 kk hkk.1 hkk.2 h
      rw [tsub, if_neg hs]
      dsimp only
      rw [fat, if_pos (by rw [fsub_len]; exact hi), fsub_at σ i.toNat k hd]
      exact ih
    · cases h

theorem fset_sub (σ : Int → Option (Int × Int × Fo)) : ∀ (k : Fo) (n : Nat) (y : Int × Int × Fo), fsub σ (fset k n y) = fset (fsub σ k) n (tsub σ y.1 y.2.1 y.2.2)
  | .nil, _, _ => rfl
  | .node a b p k r, 0, y => by
    simp only [fset, fsub, tsub]
    by_cases e : y.1 = 0
    · rw [if_pos e, if_pos e]
      by_cases e2 : p.1 = 0
      · rw [if_pos e2]
        cases σ y.2.1 <;> cases σ p.2 <;> simp [fset]
      · rw [if_neg e2]
        cases σ y.2.1 <;> simp [fset]
    · rw [if_neg e, if_neg e]
      by_cases e2 : p.1 = 0
      · rw [if_pos e2]
        cases σ p.2 <;> simp [fset]
      · rw [if_neg e2]; simp [fset]
  | .node a b p k r, n + 1, y => by
    have ih := fset_sub σ r n y
    simp only [fset, fsub]
    by_cases e2 : p.1 = 0
    · rw [if_pos e2, if_pos e2]
      cases σ p.2 <;> simp [fset, ih]
    · rw [if_neg e2, if_neg e2]; simp [fset, ih]

theorem fput_sub (σ : Int → Option (Int × Int × Fo)) : ∀ (p : List Int) (s v : Int) (k : Fo) (y : Int × Int × Fo) {z : Int × Int × Fo}, okN s v (flen k) = true → fok k = true → fput s v k p y = some z →
    fput (tsub σ s v k).1 (tsub σ s v k).2.1 (tsub σ s v k).2.2 p (tsub σ y.1 y.2.1 y.2.2) = some (tsub σ z.1 z.2.1 z.2.2)
  | [], s, v, k, y, z, _, _, h => by
    simp only [fput, Option.some.injEq] at h
    subst h
    rfl
  | i :: ps, s, v, k, y, z, ho, hk, h => by
    obtain ⟨n, b, o, s', v', kk, y', rfl, hn, hd, hy, rfl⟩ := fput_cons h
    have hs := sign_of_kid ho hn
    have hkk := fok_kid hk hd
    have ih := fput_sub σ ps s' v' kk y hkk.1 hkk.2 hy
    have h1 : tsub σ s v k = (s, v, fsub σ k) := by rw [tsub, if_neg hs]
    have h2 : tsub σ s v (fset k n y') = (s, v, fset (fsub σ k) n (tsub σ y'.1 y'.2.1 y'.2.2)) := by rw [tsub, if_neg hs, fset_sub]
    rw [h1, h2]
    exact fput_step (by rw [fsub_len]; exact hn) (fsub_at σ n k hd) ih

theorem fvl_sub (σ : Int → Option (Int × Int × Fo)) (x : Int) : ∀ k : Fo, x ∈ fvl (fsub σ k) ↔ ∃ y ∈ fvl k, x ∈ fvs (tsub σ 0 y .nil).1 (tsub σ 0 y .nil).2.1 (tsub σ 0 y .nil).2.2
  | .nil => by simp [fsub, fvl]
  | .node a b p k r => by
    have ihr := fvl_sub σ x r
    have ihk := fvl_sub σ x k
    simp only [fsub]
    by_cases e : p.1 = 0
    · rw [if_pos e]
      have ht : tsub σ 0 p.2 .nil = (σ p.2).getD (0, p.2, .nil) := by rw [tsub, if_pos rfl]
      have hR : (∃ y ∈ fvl (.node a b p k r), x ∈ fvs (tsub σ 0 y .nil).1 (tsub σ 0 y .nil).2.1 (tsub σ 0 y .nil).2.2) ↔ (x ∈ fvs (tsub σ 0 p.2 .nil).1 (tsub σ 0 p.2 .nil).2.1 (tsub σ 0 p.2 .nil).2.2) ∨ x ∈ fvl (fsub σ r) := by
        rw [ihr]
        simp only [fvl, if_pos e, List.mem_append, List.mem_singleton]
        constructor
        · rintro ⟨y, rfl | hy, h⟩
          · exact .inl h
          · exact .inr ⟨y, hy, h⟩
        · rintro (h | ⟨y, hy, h⟩)
          · exact ⟨_, .inl rfl, h⟩
          · exact ⟨y, .inr hy, h⟩
      rw [hR, ht]
      cases hσ : σ p.2 with
      | none =>
        simp only [Option.getD_none, fvl, if_pos e, List.mem_append, List.mem_singleton, fvs, if_true]
      | some t =>
        simp only [Option.getD_some, fvl, List.mem_append]
        rfl
    · rw [if_neg e]
      simp only [fvl, if_neg e, List.mem_append, ihk, ihr]
      constructor
      · rintro (⟨y, hy, h⟩ | ⟨y, hy, h⟩)
        · exact ⟨y, .inl hy, h⟩
        · exact ⟨y, .inr hy, h⟩
      · rintro ⟨y, hy | hy, h⟩
        · exact .inl ⟨y, hy, h⟩
        · exact .inr ⟨y, hy, h⟩
theorem fvs_sub (σ : Int → Option (Int × Int × Fo)) (x s v : Int) (k : Fo) (hk : s = 0 → k = .nil) : x ∈ fvs (tsub σ s v k).1 (tsub σ s v k).2.1 (tsub σ s v k).2.2 ↔ ∃ y ∈ fvs s v k, x ∈ fvs (tsub σ 0 y .nil).1 (tsub σ 0 y .nil).2.1 (tsub σ 0 y .nil).2.2 := by
  by_cases e : s = 0
  · subst e
    obtain rfl := hk rfl
    simp [fvs]
  · have h1 : tsub σ s v k = (s, v, fsub σ k) := by rw [tsub, if_neg e]
    rw [h1]
    simp only [fvs, if_neg e]
    exact fvl_sub σ x k

/-- How many signs come of what stands at a place. -/
def pcnt (σ : Int → Option (Int × Int × Fo)) : Option (Int × Int × Fo) → Nat
  | some (s, v, _) => if s = 0 then 1 + fsz (tsub σ 0 v .nil).2.2 else 1
  | none => 0
theorem fpl_sum (σ : Int → Option (Int × Int × Fo)) (s v : Int) (K : Fo) : ∀ (r : Fo) (i : Nat), fdrop i K = r → fok r = true → ((fpl r i).map fun p => pcnt σ (fat s v K p)).sum = fsz (fsub σ r)
  | .nil, _, _, _ => by simp [fpl, fsub, fsz]
  | .node a b (s', v') kk r, i, hd, hk => by
    have hi : i < flen K := by
      have := flen_drop i K
      rw [hd] at this
      simp [flen] at this
      omega
    have hr : fdrop (i + 1) K = r := by
      obtain ⟨_, _, _, _, _, e⟩ := fdrop_succ i K hi
      rw [hd] at e
      simp only [BT.node.injEq] at e
      exact e.2.2.2.2.symm
    simp only [fok, Bool.and_eq_true] at hk
    have ihr := fpl_sum σ s v K r (i + 1) hr hk.2
    have ihk := fpl_sum σ s' v' kk kk 0 rfl hk.1.2
    have hst : ∀ q, fat s v K ((i : Int) :: q) = fat s' v' kk q := fun q => fat_step hi hd
    simp only [fpl, List.map_append, List.map_map, List.sum_append, ihr, List.map_cons, List.sum_cons, Function.comp_def, hst, ihk]
    simp only [fat, pcnt, fsub]
    by_cases e : s' = 0
    · subst e
      have hn : kk = .nil := kids_none hk.1.1
      subst hn
      simp only [if_true]
      have ht : tsub σ 0 v' .nil = (σ v').getD (0, v', .nil) := by rw [tsub, if_pos rfl]
      rw [ht]
      cases σ v' with
      | none => simp [fsz, fsub]; omega
      | some t => simp [fsz, fsub]; omega
    · rw [if_neg e, if_neg e]
      simp only [fsz]
      omega
theorem places_sum (σ : Int → Option (Int × Int × Fo)) {s v : Int} {k : Fo} (ho : okN s v (flen k) = true) (hk : fok k = true) : ((places k).map fun p => pcnt σ (fat s v k p)).sum = 1 + fsz (tsub σ s v k).2.2 := by
  have h := fpl_sum σ s v k k 0 rfl hk
  simp only [places, List.map_cons, List.sum_cons]
  rw [h]
  simp only [fat, pcnt]
  by_cases e : s = 0
  · subst e
    obtain rfl := kids_none ho
    simp [fsub, fsz]
  · rw [if_neg e, tsub, if_neg e]
end Go.Proofs.Ytoafleckcjanaaa

/-! T0: The text of a term, as plain data. Definitions and plain lemmas. -/
namespace Go.Proofs.Ytoafleckcjanaaa
open Go.RowKit Go.Deep

def ltr (s : Int) : List UInt8 := if s = 1 then [97] else if s = 2 then [98] else if s = 3 then [103] else [102]
def tx1 (s v : Int) (ks : List (List UInt8)) : List UInt8 :=
  if s = 0 then 120 :: Lib.decDigits v.toNat else if ks = [] then ltr s else ltr s ++ ([40] ++ (Lib.join ks [44] ++ [41]))
/-- The texts of a list of terms. -/
def fts : Fo → List (List UInt8)
  | .nil => []
  | .node _ _ p k r => tx1 p.1 p.2 (fts k) :: fts r
/-- The text of a term. -/
def tx (s v : Int) (k : Fo) : List UInt8 := tx1 s v (fts k)
def str (l : List UInt8) : ByteArray := ⟨l.toArray⟩

theorem fts_len : ∀ k : Fo, (fts k).length = flen k
  | .nil => rfl
  | .node _ _ _ _ r => by simp [fts, flen, fts_len r]
theorem fts_nil {k : Fo} : fts k = [] ↔ flen k = 0 := by rw [← fts_len, List.length_eq_zero_iff]
theorem tx_var (v : Int) : tx 0 v .nil = 120 :: Lib.decDigits v.toNat := by simp [tx, tx1]
theorem tx_leaf {s v : Int} {k : Fo} (hs : s ≠ 0) (hk : flen k = 0) : tx s v k = ltr s := by
  unfold tx tx1
  rw [if_neg hs, if_pos (fts_nil.2 hk)]
theorem tx_kids {s v : Int} {k : Fo} (hs : s ≠ 0) (hk : flen k ≠ 0) : tx s v k = ltr s ++ ([40] ++ (Lib.join (fts k) [44] ++ [41])) := by
  unfold tx tx1
  rw [if_neg hs, if_neg fun h => hk (fts_nil.1 h)]
theorem str_add (l m : List UInt8) : str l ++ str m = str (l ++ m) := by
  apply ByteArray.ext
  rw [ByteArray.data_append]
  simp [str]
theorem str_size (l : List UInt8) : (str l).size = l.length := by simp [str, ByteArray.size]

theorem fts_at : ∀ (j : Nat) (k : Fo) {x y : Nat} {s v : Int} {kk r : Fo}, fdrop j k = .node x y (s, v) kk r → (fts k)[j]? = some (tx s v kk)
  | 0, .nil, _, _, _, _, _, _, h => by simp [fdrop] at h
  | 0, .node _ _ p k r, x, y, s, v, kk, r', h => by
    simp only [fdrop, BT.node.injEq] at h
    obtain ⟨_, _, rfl, rfl, _⟩ := h
    rfl
  | _ + 1, .nil, _, _, _, _, _, _, h => by simp [fdrop] at h
  | n + 1, .node _ _ _ _ r, _, _, _, _, _, _, h => by
    simp only [fdrop] at h
    simpa [fts] using fts_at n r h

theorem dec_len {n : Nat} (h : n < 100) : (Lib.decDigits n).length ≤ 2 := by
  unfold Lib.decDigits
  split
  · simp
  · unfold Lib.decDigits
    rw [dif_pos (by omega)]
    simp
theorem ltr_len (s : Int) : (ltr s).length = 1 := by
  unfold ltr
  split
  · rfl
  · split
    · rfl
    · split <;> rfl
def lens (ks : List (List UInt8)) : Nat := (ks.map List.length).sum
theorem join_len : ∀ ks : List (List UInt8), (Lib.join ks [44]).length ≤ lens ks + ks.length
  | [] => by simp [Lib.join_nil]
  | [x] => by simp [Lib.join_one, lens]
  | x :: y :: r => by
    have := join_len (y :: r)
    rw [Lib.join_cons] at this ⊢
    simp only [Lib.joinTail, lens, List.map_cons, List.flatten_cons, List.length_append, List.sum_cons, List.length_cons, List.length_nil] at this ⊢
    omega
/-- Well-formed terms have short texts. -/
theorem fts_short : ∀ k : Fo, fok k = true → lens (fts k) + (fts k).length ≤ 6 * fsz k
  | .nil, _ => by simp [fts, lens]
  | .node x y p k r, h => by
    simp only [fok, Bool.and_eq_true] at h
    have hk := fts_short k h.1.2
    have hr := fts_short r h.2
    have hj := join_len (fts k)
    have hl := ltr_len p.1
    have : (tx1 p.1 p.2 (fts k)).length ≤ 5 + 6 * fsz k := by
      unfold tx1
      split
      · rename_i h0
        have hv := ((okN_iff _ _ _).1 h.1.1).2.1 h0
        have := dec_len (n := p.2.toNat) (by omega)
        simp; omega
      · split
        · omega
        · simp only [List.length_append, List.length_cons, List.length_nil]; omega
    simp only [fts, fsz, lens, List.map_cons, List.sum_cons, List.length_cons] at hr ⊢
    omega
end Go.Proofs.Ytoafleckcjanaaa
