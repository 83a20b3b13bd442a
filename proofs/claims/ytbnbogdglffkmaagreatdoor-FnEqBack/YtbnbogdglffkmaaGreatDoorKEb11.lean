/- Several texts in one: RD6, RD7, Read, XA, XB, XBt. -/
import Derived.Test.YtbnbogdglffkmaaGreatDoorKEb10
import Derived.Test.YtbnbogdglffkmaaGreatDoorKEb1
import Derived.Test.YtbnbogdglffkmaaGreatDoorRows
import Derived.ProofKit
import Derived.Lib.SmallJoins
import Derived.WalkKit
import Derived.WalkSpells
import Derived.WalkLawsBesides
import Derived.Lib.Hide
import Derived.Deep.OwnRows

/-! RD6: The reader of texts: a sign with its terms; one term. -/
namespace Go.Proofs.YtbnbogdglffkmaaGreatDoor
open Go.RowKit Go.Deep

theorem rdS_none {fuel : Nat} {s : Int} {room : Nat} {l : List UInt8} (h : rdKs fuel (ar s).toNat 40 room l = none) : rdS fuel s room l = none := by unfold rdS; rw [h]; rfl
theorem rdS_zero {fuel : Nat} {s : Int} {room room' : Nat} {l r : List UInt8} {k : Fo} (h : rdKs fuel (ar s).toNat 40 room l = some (k, room', r)) (h0 : ar s = 0) : rdS fuel s room l = some ((s, 0, k), room', r) := by unfold rdS; rw [h]; simp only [Option.bind_some, if_pos h0]
theorem rdS_more {fuel : Nat} {s : Int} {room room' : Nat} {l r : List UInt8} {k : Fo} (h : rdKs fuel (ar s).toNat 40 room l = some (k, room', r)) (h0 : ar s ≠ 0) : rdS fuel s room l = (skp 41 r).map fun r3 => ((s, 0, k), room', r3) := by unfold rdS; rw [h]; simp only [Option.bind_some, if_neg h0]
theorem ndPost_no {br : Nat} {w w' : World} {o : Option ((Int × Int × Fo) × Nat × List UInt8)} {nv : Value} {l : List UInt8} {room : Int} (h : o = none) (hk : Rk br w w') (hr : RdAt w' br l room) : NdPost br w o (.returned (.tuple #[nv, .bool false])) w' := by
  subst h
  exact ⟨_, _, _, rfl, hk, hr, fun s v k m r e => by cases e⟩
theorem ndPost_yes {br : Nat} {w w' : World} {o : Option ((Int × Int × Fo) × Nat × List UInt8)} {nv : Value} {s v : Int} {k : Fo} {m : Nat} {r : List UInt8} (h : o = some ((s, v, k), m, r)) (hk : Rk br w w') (hr : RdAt w' br r (m : Nat)) (hn : NodeC w' w.heap.size w'.heap.size nv s v k) : NdPost br w o (.returned (.tuple #[nv, .bool true])) w' := by
  subst h
  refine ⟨_, _, _, rfl, hk, hr, fun s v k m r e => ?_⟩
  simp only [Option.some.injEq, Prod.mk.injEq] at e
  obtain ⟨⟨rfl, rfl, rfl⟩, rfl, rfl⟩ := e
  exact ⟨rfl, rfl, hn⟩

set_option maxRecDepth 100000 in
set_option maxHeartbeats 1000000 in
theorem symbol_any (fuel : Nat) (ih : NdSpec fuel) (br : Nat) (s : Int) (l0 : List UInt8) (room0 : Nat) (w : World) (hs0 : 1 ≤ s) (hs1 : s ≤ 4) (hroom : room0 ≤ fuel) (h : RdAt w br l0 (room0 : Nat)) (hl : l0.length ≤ 1048576) (hE : ErrAt w br) :
    Calls Tryz.prog 49 #[.pointer (some ⟨br, 0, none⟩), .int .i64 s] w (NdPost br w (rdS fuel s room0 l0)) := by
  have ha : 0 ≤ ar s ∧ ar s ≤ 2 := by
    have : s = 1 ∨ s = 2 ∨ s = 3 ∨ s = 4 := by omega
    rcases this with rfl | rfl | rfl | rfl <;> decide
  obtain ⟨n, hn⟩ : ∃ n : Nat, (n : Int) = ar s := ⟨(ar s).toNat, by omega⟩
  have hnt : (ar s).toNat = n := by omega
  have hn2 : n ≤ 2 := by omega
  have hs : s ≠ 0 := by omega
  have hmk := run_make_row' (P := Tryz.prog) 81 54 .nilIface 16 Tryz.underlying81 Tryz.infoNode rfl .i64 .i64 n (by omega) (by omega)
  have harity := arityOf_any s w hs
  rw [← hn] at harity
  have IH := Lib.hid ih
  have HH := Lib.hid h
  have HE := Lib.hid hE
  have HN := Lib.hid hn
  have HNT := Lib.hid hnt
  have hbr := h.lt
  have hst := SyAt.start (fuel := fuel) (n := n) h
  have HST := Lib.hid hst
  clear ih h hE hn hnt hst ha
  go_enter Tryz.func49, Tryz.ntmps49
  go_wp2_with (go_at_call 44; refine harity.mono ?_; rintro e w2 ⟨rfl, rfl⟩)
  go_loopw [7, 16] (fun m i wr => ∃ (j : Nat) (mk : UInt8), j ≤ n ∧ i = .int .i64 j ∧ m = .string ⟨#[mk]⟩ ∧ SyAt w br fuel n room0 l0 j mk wr) (fun _ i _ => n - (intOf i).toNat)
  case atStart => exact ⟨0, 40, Nat.zero_le _, rfl, rfl, HST.out⟩
  case round =>
    obtain ⟨j, mk, hj, rfl, rfl, hat⟩ := hrel
    obtain ⟨hk0, hg, ks, room, l, rfl, hrm, hlen, hR, hstt, f, hf, hall⟩ := hat
    have HSTT := Lib.hid hstt
    have HALL := Lib.hid hall
    have HF := Lib.hid hf
    have HR := Lib.hid hR
    have HK0 := Lib.hid hk0
    clear hstt hall hf hR hk0 HST
    by_cases hlt : ks.length < n
    · go_wp2_with fail
      with_reducible refine (skip_any br mk l _ _ HR.out).mono ?_
      rintro e w2 ⟨rfl, hk2, hR2⟩
      cases hsk : skp mk l with
      | none =>
        have hfin := ndPost_no (nv := .nilIface) (rdS_none (s := s) (by rw [HNT.out]; exact HSTT.out.no_mark hlt hsk)) (HK0.out.trans hk2) hR2
        have HFIN := Lib.hid hfin
        clear hfin hk2 hR2
        go_wp2_with fail
        go_ret2
        exact HFIN.out
      | some r =>
        rw [hsk] at hR2
        have hR2 : RdAt w2 br r (room : Nat) := hR2
        have HSK := Lib.hid hsk
        have HR2 := Lib.hid hR2
        have HK2 := Lib.hid hk2
        have hrl : r.length ≤ 1048576 := by have := skp_len hsk; omega
        have hE2 : ErrAt w2 br := HE.out.same ((HK0.out.trans hk2).same (Nat.le_refl _) (Nat.le_of_lt hbr))
        have HE2 := Lib.hid hE2
        clear hR2 hk2 hE2 hsk
        have hih := IH.out br r room w2 (by omega) HR2.out hrl HE2.out
        have HIH := Lib.hid hih
        clear hih
        go_wp2_with fail
        with_reducible refine HIH.out.mono ?_
        rintro e w3 ⟨nv, l', room', rfl, hk3, hR3, hyes⟩
        cases hrd : rdN fuel room r with
        | none =>
          have hfin := ndPost_no (nv := .nilIface) (rdS_none (s := s) (by rw [HNT.out]; exact HSTT.out.no_kid hlt HSK.out hrd)) ((HK0.out.trans HK2.out).trans hk3) hR3
          have HFIN := Lib.hid hfin
          clear hfin hk3 hR3 hyes
          go_wp2_with fail
          go_ret2
          exact HFIN.out
        | some t =>
          obtain ⟨⟨s', v', k'⟩, m', r'⟩ := t
          obtain ⟨rfl, rfl, hnode⟩ := hyes _ _ _ _ _ hrd
          have hs2 := HK2.out.size
          have hstep := SyAt.step hbr HK0.out hg hrm hlen HSTT.out HF.out HALL.out hlt HSK.out hrd (HK2.out.trans hk3) hR3 (hnode.mono hs2 (Nat.le_refl _))
          have HSTEP := Lib.hid hstep
          have hrow := (HK2.out.trans hk3).row HF.out (by omega)
          have hgc := hrow.cell hlt
          have hgf := hrow.frozen ks.length
          have HNODE := Lib.hid hnode
          clear hstep hrow hk3 hR3 hyes hrd hs2 hnode
          rcases HNODE.out with ⟨_, _, rfl⟩ | ⟨_, a2, c2, rfl, _⟩
          all_goals
            go_wp2_with fail
            go_roundw
            case rel => exact ⟨ks.length + 1, 44, by omega, by go_num, rfl, HSTEP.out⟩
            case measure => simp [intOf]; omega
    · have hkn : ks.length = n := by omega
      have hdone := HSTT.out.done hkn
      rw [← HNT.out] at hdone
      have hnode := SyAt.node (s := s) hs hg hkn HF.out HALL.out
      have HD := Lib.hid hdone
      have HND := Lib.hid hnode
      clear hdone hnode
      by_cases h0 : n = 0
      · have ha0 : ar s = 0 := by have := HN.out; omega
        have hnd := HND.out
        rw [h0] at hnd
        have hfin := ndPost_yes (rdS_zero HD.out ha0) HK0.out HR.out hnd
        have HFIN := Lib.hid hfin
        clear hfin ha0 hnd
        go_wp2_with fail
        go_ret2
        exact HFIN.out
      · have ha0 : ar s ≠ 0 := by have := HN.out; omega
        have hS := rdS_more HD.out ha0
        have HS := Lib.hid hS
        clear hS ha0
        go_wp2_with fail
        with_reducible refine (skip_any br 41 l _ _ HR.out).mono ?_
        rintro e w2 ⟨rfl, hk2, hR2⟩
        cases hsk : skp 41 l with
        | none =>
          have hfin := ndPost_no (nv := .nilIface) (o := rdS fuel s room0 l0) (by rw [HS.out, hsk]; rfl) (HK0.out.trans hk2) hR2
          have HFIN := Lib.hid hfin
          clear hfin hk2 hR2
          go_wp2_with fail
          go_ret2
          exact HFIN.out
        | some r =>
          rw [hsk] at hR2
          have hfin := ndPost_yes (o := rdS fuel s room0 l0) (by rw [HS.out, hsk]; rfl) (HK0.out.trans hk2) hR2 (hk2.node HND.out hbr)
          have HFIN := Lib.hid hfin
          clear hfin hk2 hR2
          go_wp2_with fail
          go_ret2
          exact HFIN.out
end Go.Proofs.YtbnbogdglffkmaaGreatDoor

/-! RD7: The reader of texts: one term. -/
namespace Go.Proofs.YtbnbogdglffkmaaGreatDoor
open Go.RowKit Go.Deep

theorem str_nil : str [] = ⟨#[]⟩ := rfl
theorem rest_slice (b : UInt8) (r : List UInt8) : (str (b :: r)).extract 1 (r.length + 1) = str r := by
  apply str_of
  rw [show r.length + 1 = (str (b :: r)).size from by rw [str_size]; rfl, Lib.extract_to_end, str_toList]
  rfl

theorem ndPost_through {br : Nat} {w w2 w3 : World} {o : Option ((Int × Int × Fo) × Nat × List UInt8)} {e : Ending} (hk : Rk br w w2) (h : NdPost br w2 o e w3) : NdPost br w o e w3 := by
  obtain ⟨nv, l', room', he, hk3, hR3, hyes⟩ := h
  exact ⟨nv, l', room', he, hk.trans hk3, hR3, fun s v k m r e => by
    obtain ⟨h1, h2, h3⟩ := hyes s v k m r e
    exact ⟨h1, h2, h3.mono hk.size (Nat.le_refl _)⟩⟩

set_option maxRecDepth 100000 in
set_option maxHeartbeats 1000000 in
theorem node_any : ∀ fuel : Nat, fuel ≤ 1000 → NdSpec fuel := by
  intro fuel
  induction fuel with
  | zero =>
    intro _ br l room w hroom h hl hE
    obtain rfl : room = 0 := by omega
    have hfin := ndPost_no (br := br) (nv := .nilIface) (rdN_none (fuel := 0) (room := 0) (by omega) l) (Rk.refl br w) h
    have HFIN := Lib.hid hfin
    have h1 : w.cell? ⟨br, 1, none⟩ = some (.int .i64 0) := h.c1
    clear h hE hfin
    go_enter Tryz.func41, Tryz.ntmps41
    go_wp2_with fail
    go_ret2
    exact HFIN.out
  | succ fuel ih0 =>
    intro hfu br l room w hroom h hl hE
    have ih := ih0 (by omega)
    clear ih0
    have hrm : room ≤ 1000 := by omega
    have h0 := h.c0
    have h1 := h.c1
    have h3 := h.f1
    have IH := Lib.hid ih
    have HH := Lib.hid h
    have HE := Lib.hid hE
    have hbr := h.lt
    by_cases hz : room < 1
    · obtain rfl : room = 0 := by omega
      have hfin := ndPost_no (br := br) (nv := .nilIface) (rdN_none (fuel := fuel + 1) (room := 0) (by omega) l) (Rk.refl br w) h
      have HFIN := Lib.hid hfin
      clear h hE hfin ih
      go_enter Tryz.func41, Tryz.ntmps41
      go_wp2_with fail
      go_ret2
      exact HFIN.out
    cases l with
    | nil =>
      have hfin := ndPost_no (br := br) (nv := .nilIface) (rdN_nil (fuel + 1) room) (Rk.refl br w) h
      have HFIN := Lib.hid hfin
      have e2 : (str []).toList.isEmpty = true := by rw [Lib.toList_data, str_toList]; rfl
      have e1 : decide ((room : Int) < 1) = false := by simp; omega
      clear h hE hfin ih hz
      go_enter Tryz.func41, Tryz.ntmps41
      go_wp2_with fail
      go_ret2
      exact HFIN.out
    | cons b r =>
      have e1 : decide ((room : Int) < 1) = false := by simp; omega
      have e2 : (str (b :: r)).toList.isEmpty = false := by rw [Lib.toList_data, str_toList]; rfl
      have hr1 : ((room : Int) - 1) = ((room - 1 : Nat) : Int) := by omega
      have hRm := h.room ((room : Int) - 1)
      have HRM := Lib.hid hRm
      have HR1 := Lib.hid hr1
      have HZ := Lib.hid hz
      clear h hE ih hz hRm hr1
      go_enter Tryz.func41, Tryz.ntmps41
      go_wp2_with fail
      with_reducible refine (skip_any br 120 (b :: r) _ _ HRM.out).mono ?_
      rintro e w2 ⟨rfl, hk2, hR2⟩
      have hK2 := (Rk.set br w 1 (.int .i64 ((room : Int) - 1))).trans hk2
      have hE2 := HE.out.same (hK2.same (Nat.le_refl _) (Nat.le_of_lt hbr))
      rw [HR1.out] at hR2
      have HK2 := Lib.hid hK2
      have HE2 := Lib.hid hE2
      clear hk2 hK2 hE2 h0 h1 h3 e1 e2
      have hrl : r.length ≤ 1048576 := by rw [List.length_cons] at hl; omega
      by_cases hb : b = 120
      · subst hb
        rw [skp_self] at hR2 ⊢
        have hR2 : RdAt w2 br r (room - 1 : Nat) := hR2
        have hv := variable_any br r (room - 1) w2 hR2 hrl HE2.out
        have hrd := rdN_var (fuel := fuel) (room := room) (by have := HZ.out; omega) r
        have HV := Lib.hid hv
        have HRD := Lib.hid hrd
        clear hv hrd hR2
        go_wp2_with fail
        with_reducible refine HV.out.mono ?_
        rintro e w3 hpost
        have hfin := ndPost_through HK2.out hpost
        rw [← HRD.out] at hfin
        obtain ⟨nv, l', room', he, _⟩ := hpost
        obtain ⟨t, he⟩ : ∃ t : Bool, e = .returned (.tuple #[nv, .bool t]) := ⟨_, he⟩
        subst he
        have HFIN := Lib.hid hfin
        clear hfin
        go_wp2_with fail
        go_ret2
        exact HFIN.out
      · have hsk : skp 120 (b :: r) = none := by show (if b = 120 then some r else none) = none; rw [if_neg hb]
        rw [hsk] at hR2 ⊢
        have hR2 : RdAt w2 br (b :: r) (room - 1 : Nat) := hR2
        have h0 := hR2.c0
        have h2 := hR2.f0
        have hz2 : (str (b :: r)).size = r.length + 1 := by rw [str_size]; rfl
        have hix : ∀ wx, (Instr.index 9 (.string (str (b :: r))) (.int .i64 0)).run Tryz.prog wx = .ok (.int .u8 b.toNat) wx := fun wx => by
          rw [run_index_string _ _ _ _ _ Tryz.underlying9, dif_pos ⟨by omega, by omega⟩]
          rfl
        have hres := hR2.rest r
        have hK3 := HK2.out.trans (Rk.set br w2 0 (.string (str r)))
        have HRES := Lib.hid hres
        have HK3 := Lib.hid hK3
        have hE3 := HE.out.same (hK3.same (Nat.le_refl _) (Nat.le_of_lt hbr))
        have HE3 := Lib.hid hE3
        have HRS := Lib.hid (rest_slice b r)
        obtain ⟨hs0, hs1⟩ := sgnI_range b
        clear hres hK3 hE3
        by_cases hs : sgnI b = 0
        · have hfin := ndPost_no (nv := .nilIface) (rdN_bad (fuel := fuel) (room := room) hb hs r) HK2.out hR2
          have HFIN := Lib.hid hfin
          clear hfin hR2
          go_wp2_with (go_at_call 48; refine (signLetter_any b _).mono ?_; rintro e w3 ⟨rfl, rfl⟩)
          go_ret2
          exact HFIN.out
        · have hq : (sgnI b == 0) = false := by simpa using hs
          have hsy := symbol_any fuel IH.out br (sgnI b) r (room - 1) _ (by omega) (by omega) (by omega) HRES.out hrl HE3.out
          have hrd := rdN_sym (fuel := fuel) (room := room) (by have := HZ.out; omega) hb hs r
          have HSY := Lib.hid hsy
          have HRD := Lib.hid hrd
          clear hsy hrd hR2 hs
          go_wp2_with (go_at_call 48; refine (signLetter_any b _).mono ?_; rintro e w3 ⟨rfl, rfl⟩)
          rw [HRS.out]
          with_reducible refine HSY.out.mono ?_
          rintro e w3 hpost
          have hfin := ndPost_through HK3.out hpost
          rw [← HRD.out] at hfin
          obtain ⟨nv, l', room', he, _⟩ := hpost
          obtain ⟨t, he⟩ : ∃ t : Bool, e = .returned (.tuple #[nv, .bool t]) := ⟨_, he⟩
          subst he
          have HFIN := Lib.hid hfin
          clear hfin
          go_wp2_with fail
          go_ret2
          exact HFIN.out
end Go.Proofs.YtbnbogdglffkmaaGreatDoor

/-! Read: - A term that came in as an argument, as the walks take it. -/
namespace Go.Proofs.YtbnbogdglffkmaaGreatDoor
open Go.ChangeShapes Go.WideShapes Go.RowKit Go.Deep Go.Joins

theorem add_none (b o n : Nat) : (⟨b, o, none⟩ : Addr).add n = ⟨b, o + n, none⟩ := by unfold Addr.add; split <;> simp_all

theorem Tryz.cellsInt : Tryz.prog.cellsOf 3 = 1 := by kernel_rfl
/-- No slice in it is longer than a slice can be. -/
def fcap : Fo → Prop
  | .nil => True
  | .node _ _ _ k r => flen k ≤ maxLen ∧ fcap k ∧ fcap r
theorem fcap_drop : ∀ (i : Nat) (k : Fo), fcap k → fcap (fdrop i k)
  | 0, _, h => h
  | _ + 1, .nil, h => h
  | n + 1, .node _ _ _ _ r, h => fcap_drop n r h.2.2

/-- Elements one by one: a row of terms. -/
theorem row_of_elems {w : World} {b o len : Nat} (h : ∀ i, i < len → ∃ s v a c k, w.cell? ⟨b, o + i * 3, none⟩ = some (.int .i64 s) ∧ w.cell? ⟨b, o + i * 3 + 1, none⟩ = some (.int .i64 v) ∧
      w.cell? ⟨b, o + i * 3 + 2, none⟩ = some (.slice a (flen k) c) ∧ Sl w 0 w.heap.size a k ∧ flen k ≤ maxLen ∧ fcap k) :
    ∀ m, m ≤ len → ∃ k, flen k = m ∧ fcap k ∧ Row w 0 w.heap.size k b (o + (len - m) * 3)
  | 0, _ => ⟨.nil, rfl, trivial, trivial⟩
  | m + 1, hm => by
    obtain ⟨r, hr, hrc, hrow⟩ := row_of_elems h m (by omega)
    obtain ⟨s, v, a, c, k, h0, h1, h2, hs, hk1, hk2⟩ := h (len - (m + 1)) (by omega)
    refine ⟨.node 0 0 (s, v) k r, by simp [flen, hr], ⟨hk1, hk2, hrc⟩, Nat.zero_le _, World.block_lt_of_cell? _ _ h0, h0, h1, ⟨a, c, h2, hs⟩, ?_⟩
    rw [show o + (len - (m + 1)) * 3 + 3 = o + (len - m) * 3 from by omega]
    exact hrow

end Go.Proofs.YtbnbogdglffkmaaGreatDoor

/-! XA: - szTerm, szTermS: how many terms there are below a term, as long as there are not too many. -/
namespace Go.Proofs.YtbnbogdglffkmaaGreatDoor
open Go.RowKit Go.Deep

def szR (k : Fo) (left : Int) : Int := if (fsz k : Int) ≤ left then left - fsz k else -1
/-- .. with the terms r still to be looked below. -/
def szG (r : Fo) (l : Int) : Int := if (fsz r : Int) - flen r ≤ l then l - ((fsz r : Int) - flen r) else -1

theorem flen_le {k : Fo} : flen k ≤ fsz k := by
  induction k with
  | nil => exact Nat.le_refl _
  | node _ _ _ k r _ ih => simp only [flen, fsz]; omega
theorem szR_start (k : Fo) (left : Int) : szR k left = szG k (left - flen k) := by
  have := flen_le (k := k)
  unfold szR szG
  split <;> split <;> omega
theorem szR_over {k : Fo} {left : Int} (h : left < flen k) : szR k left = -1 := by
  have := flen_le (k := k)
  unfold szR
  rw [if_neg (by omega)]
theorem szG_node (x y : Nat) (p : Int × Int) (kk r : Fo) : (fsz (.node x y p kk r) : Int) - flen (.node x y p kk r) = fsz kk + ((fsz r : Int) - flen r) := by
  have e1 : fsz (.node x y p kk r) = fsz kk + fsz r + 1 := rfl
  have e2 : flen (.node x y p kk r) = flen r + 1 := rfl
  rw [e1, e2]
  omega
theorem szG_step {x y : Nat} {p : Int × Int} {kk r : Fo} {l : Int} (_h : (fsz kk : Int) ≤ l) : szG (.node x y p kk r) l = szG r (l - fsz kk) := by
  unfold szG
  rw [szG_node]
  split <;> split <;> omega
theorem szG_over {x y : Nat} {p : Int × Int} {kk r : Fo} {l : Int} (h : l < (fsz kk : Int)) : szG (.node x y p kk r) l = -1 := by
  have := flen_le (k := r)
  unfold szG
  rw [szG_node, if_neg (by omega)]
theorem szG_nil {l : Int} (h : 0 ≤ l) : szG .nil l = l := by
  unfold szG
  simp [fsz, flen, h]
theorem fsz_drop' : ∀ (i : Nat) (k : Fo), fsz (fdrop i k) ≤ fsz k
  | 0, _ => Nat.le_refl _
  | _ + 1, .nil => Nat.le_refl _
  | n + 1, .node _ _ _ _ r => by have := fsz_drop' n r; simp only [fdrop, fsz]; omega
theorem fsz_kid' {i : Nat} {k : Fo} {x y : Nat} {p : Int × Int} {kk r : Fo} (h : fdrop i k = .node x y p kk r) : fsz kk < fsz k := by
  have := fsz_drop' i k
  rw [h] at this
  simp only [fsz] at this
  omega
theorem sub_neg {left : Int} {n : Nat} (h0 : 0 ≤ left) (h1 : left ≤ 1048576) (h2 : 1048576 < n) (h3 : n ≤ maxLen) : decide (wrap64 (left - (n : Int)) < 0) = true := by
  unfold maxLen at h3
  have : wrap64 (left - (n : Int)) = left - n := by
    unfold wrap64
    omega
  rw [this]
  exact decide_eq_true (by omega)

theorem box_lowX {w w' : World} {o : Obj} (h : Below (w.heap.size + 1) (w.alloc o) w') : Below w.heap.size w w' :=
  ((Below.refl _ _).alloc (Nat.le_refl _) o).trans (h.mono (Nat.le_succ _))

theorem szR_case (k : Fo) (left : Int) : szR k left = -1 ∨ 0 ≤ szR k left := by unfold szR; split <;> omega

end Go.Proofs.YtbnbogdglffkmaaGreatDoor

/-! XB: - toTerm, toTermS: a term copied into the program's own type. -/
namespace Go.Proofs.YtbnbogdglffkmaaGreatDoor
open Go.RowKit Go.Deep

def ToPost (s v : Int) (k : Fo) (w : World) (e : Ending) (w' : World) : Prop :=
  ∃ a c, e = .returned (.agg #[.int .i64 s, .int .i64 v, .slice a (flen k) c]) ∧ Below w.heap.size w w' ∧ Sl w' w.heap.size w'.heap.size a k
def TosPost (k : Fo) (w : World) (e : Ending) (w' : World) : Prop :=
  ∃ a c, e = .returned (.slice a (flen k) c) ∧ Below w.heap.size w w' ∧ Sl w' w.heap.size w'.heap.size a k

theorem to_end {w w1 : World} {s v : Int} {k : Fo} {a : Option Addr} {c : Nat} {n : Nat} (hn : n = w.heap.size) (hb : Below n w w1) (hl : Sl w1 (n + 3) w1.heap.size a k) (u x y z : Value) :
    ToPost s v k w (.returned (.agg #[.int .i64 s, .int .i64 v, .slice a (flen k) c])) ((((w1.setCell ⟨n + 1 + 1, 2, none⟩ u).setCell ⟨n + 1, 0, none⟩ x).setCell ⟨n + 1, 1, none⟩ y).setCell ⟨n + 1, 2, none⟩ z) := by
  subst hn
  refine ⟨a, c, rfl, (((hb.setCell (by simp; omega) _).setCell (by simp) _).setCell (by simp) _).setCell (by simp) _, ?_⟩
  have hs : Same (w.heap.size + 3) w1.heap.size w1 ((((w1.setCell ⟨w.heap.size + 1 + 1, 2, none⟩ u).setCell ⟨w.heap.size + 1, 0, none⟩ x).setCell ⟨w.heap.size + 1, 1, none⟩ y).setCell ⟨w.heap.size + 1, 2, none⟩ z) :=
    ((((Same.setCell (fun _ _ _ => rfl) (.inl (by simp)) _).setCell (.inl (by simp)) _).setCell (.inl (by simp)) _).setCell (.inl (by simp)) _)
  exact (hl.same hs).mono (by omega) (by simp)

theorem Tryz.infoTermX : ∃ i, Tryz.prog.info? 25 = some i ∧ i.zero = some (.agg #[.int .i64 0, .int .i64 0, .slice none 0 0]) ∧ i.size = 3 ∧ i.bytes = 40 := by
  have h : (Tryz.prog.info? 25).map (fun i => (i.zero, i.size, i.bytes)) = some (some (.agg #[.int .i64 0, .int .i64 0, .slice none 0 0]), 3, 40) := by kernel_rfl
  obtain ⟨i, hi, hz⟩ := Option.map_eq_some_iff.1 h
  simp only [Prod.mk.injEq] at hz
  exact ⟨i, hi, hz.1, hz.2.1, hz.2.2⟩
theorem make_terms (n : Nat) (hn : n ≤ 1048576) (w : World) :
    (Instr.makeSlice 23 (.int .i64 (n : Int)) (.int .i64 (n : Int))).run Tryz.prog w = .ok (.slice (some ⟨w.heap.size, 0, none⟩) n n) (w.alloc (.cells (madeCells #[.int .i64 0, .int .i64 0, .slice none 0 0] (n * 3)) 25)) := by
  obtain ⟨i, hi, hz, hs, hb⟩ := Tryz.infoTermX
  have := run_make (P := Tryz.prog) w 23 25 i _ Tryz.underlying23 hi hz .i64 .i64 (n : Int) (n : Int) (by omega) (by omega) (by rw [hb]; omega) (by omega)
  rw [hs] at this
  simpa [Value.cells] using this
theorem made_at (n i : Nat) (z : Array Value) (h : i < n) : (madeCells z n)[i]? = some (z[i % z.size]!) := by simp [madeCells, h]

/-- What holds at the head of toTermS's loop. -/
structure ToAt (w : World) (k : Fo) (j : Nat) (wr : World) : Prop where
  below : Below w.heap.size w wr
  size : w.heap.size < wr.heap.size
  row : ∃ f : Nat → Value, wr.rowIs w.heap.size 25 (flen k * 3) f ∧ ∀ i, i < j → ∃ x y s v kk a c, fdrop i k = .node x y (s, v) kk (fdrop (i + 1) k) ∧
    f (i * 3) = .int .i64 s ∧ f (i * 3 + 1) = .int .i64 v ∧ f (i * 3 + 2) = .slice a (flen kk) c ∧ Sl wr (w.heap.size + 1) wr.heap.size a kk

theorem ToAt.start (w : World) (k : Fo) : ToAt w k 0 (w.alloc (.cells (madeCells #[.int .i64 0, .int .i64 0, .slice none 0 0] (flen k * 3)) 25)) := by
  refine ⟨(Below.refl _ _).alloc (Nat.le_refl _) _, by simp, ⟨fun i => #[Value.int .i64 0, .int .i64 0, .slice none 0 0][i % 3]!, ?_, fun i hi => by omega⟩⟩
  have := World.rowIs_alloc w (madeCells #[.int .i64 0, .int .i64 0, .slice none 0 0] (flen k * 3)) 25 (fun i => #[Value.int .i64 0, .int .i64 0, .slice none 0 0][i % 3]!) (fun i hi => by
    rw [size_madeCells] at hi
    exact made_at _ _ _ hi)
  rw [size_madeCells] at this
  exact this
theorem ToAt.step {w wr w2 : World} {k : Fo} {j x y : Nat} {s v : Int} {kk : Fo} {a : Option Addr} {c : Nat} (h : ToAt w k j wr) (hd : fdrop j k = .node x y (s, v) kk (fdrop (j + 1) k)) (hb : Below wr.heap.size wr w2) (hl : Sl w2 wr.heap.size w2.heap.size a kk) :
    ToAt w k (j + 1) (((w2.setCell ⟨w.heap.size, j * 3, none⟩ (.int .i64 s)).setCell ⟨w.heap.size, j * 3 + 1, none⟩ (.int .i64 v)).setCell ⟨w.heap.size, j * 3 + 2, none⟩ (.slice a (flen kk) c)) := by
  have hs := h.size
  have hs2 := hb.size
  obtain ⟨f, hf, hall⟩ := h.row
  have hf2 := hf.of_block (hb.block _ hs)
  have hsame : ∀ {L H : Nat}, w.heap.size < L → Same L H w2 (((w2.setCell ⟨w.heap.size, j * 3, none⟩ (.int .i64 s)).setCell ⟨w.heap.size, j * 3 + 1, none⟩ (.int .i64 v)).setCell ⟨w.heap.size, j * 3 + 2, none⟩ (.slice a (flen kk) c)) := fun hL =>
    ((Same.setCell (fun _ _ _ => rfl) (.inl hL) _).setCell (.inl hL) _).setCell (.inl hL) _
  refine ⟨(((h.below.trans (hb.mono (by omega))).setCell (by simp) _).setCell (by simp) _).setCell (by simp) _, by simp; omega, ⟨_, ((hf2.set _ _).set _ _).set _ _, fun i hi => ?_⟩⟩
  by_cases hij : i = j
  · subst hij
    exact ⟨x, y, s, v, kk, a, c, hd, by simp, by simp, by simp, (hl.same (hsame (by omega))).mono (by omega) (by simp)⟩
  · obtain ⟨x', y', s', v', k', a', c', e, h0, h1, h2, hsl⟩ := hall i (by omega)
    refine ⟨x', y', s', v', k', a', c', e, ?_, ?_, ?_, ((hsl.same (fun b h1 h2 => hb.block b h2)).same (hsame (by omega))).mono (Nat.le_refl _) (by simp; omega)⟩
    · rw [if_neg (by omega), if_neg (by omega), if_neg (by omega)]; exact h0
    · rw [if_neg (by omega), if_neg (by omega), if_neg (by omega)]; exact h1
    · rw [if_neg (by omega), if_neg (by omega), if_neg (by omega)]; exact h2
theorem ToAt.sl {w wr : World} {k : Fo} {j : Nat} (h : ToAt w k j wr) (hj : flen k ≤ j) : Sl wr w.heap.size wr.heap.size (some ⟨w.heap.size, 0, none⟩) k := by
  obtain ⟨f, hf, hall⟩ := h.row
  have hrow : ∀ (k' : Fo) (o : Nat), (∀ i, i < flen k' → ∃ x y s v kk a c, fdrop i k' = .node x y (s, v) kk (fdrop (i + 1) k') ∧ wr.cell? ⟨w.heap.size, o + i * 3, none⟩ = some (.int .i64 s) ∧ wr.cell? ⟨w.heap.size, o + i * 3 + 1, none⟩ = some (.int .i64 v) ∧
      wr.cell? ⟨w.heap.size, o + i * 3 + 2, none⟩ = some (.slice a (flen kk) c) ∧ Sl wr w.heap.size wr.heap.size a kk) → Row wr w.heap.size wr.heap.size k' w.heap.size o := by
    intro k'
    induction k' with
    | nil => intro o _; trivial
    | node x y p kk r _ ih =>
      intro o h'
      obtain ⟨x', y', s, v, kk', a, c, e, c0, c1, c2, hs⟩ := h' 0 (by simp [flen])
      simp only [fdrop, BT.node.injEq] at e
      obtain ⟨_, _, rfl, rfl, _⟩ := e
      refine ⟨Nat.le_refl _, h.size, by simpa using c0, by simpa using c1, ⟨a, c, by simpa using c2, hs⟩, ih (o + 3) fun i hi => ?_⟩
      obtain ⟨x', y', s, v, kk', a, c, e, c0, c1, c2, hs⟩ := h' (i + 1) (by simp [flen]; omega)
      have e3 : o + 3 + i * 3 = o + (i + 1) * 3 := by omega
      exact ⟨x', y', s, v, kk', a, c, e, by rw [e3]; exact c0, by rw [e3]; exact c1, by rw [e3]; exact c2, hs⟩
  refine .inr ⟨_, 0, rfl, hrow k 0 fun i hi => ?_⟩
  obtain ⟨x, y, s, v, kk, a, c, e, h0, h1, h2, hs⟩ := hall i (by omega)
  refine ⟨x, y, s, v, kk, a, c, e, ?_, ?_, ?_, hs.mono (by omega) (Nat.le_refl _)⟩
  · rw [Nat.zero_add, ← h0]; exact hf.cell (by omega)
  · rw [Nat.zero_add, ← h1]; exact hf.cell (by omega)
  · rw [Nat.zero_add, ← h2]; exact hf.cell (by omega)

end Go.Proofs.YtbnbogdglffkmaaGreatDoor

/-! XBt: - toTerm, toTermS once more: the copy is a tree whose rows lie each at the head of a block of its own, not frozen; and what stays of it if its numbers are written over. -/
namespace Go.Proofs.YtbnbogdglffkmaaGreatDoor
open Go.RowKit Go.Deep

theorem row_of_allX {w : World} {lo B : Nat} : ∀ (k : Fo) (b o : Nat), lo ≤ b → b < B →
    (∀ i, i < flen k → ∃ x y s v kk a c, fdrop i k = .node x y (s, v) kk (fdrop (i + 1) k) ∧ w.cell? ⟨b, o + i * 3, none⟩ = some (.int .i64 s) ∧ w.cell? ⟨b, o + i * 3 + 1, none⟩ = some (.int .i64 v) ∧
      w.cell? ⟨b, o + i * 3 + 2, none⟩ = some (.slice a (flen kk) c) ∧ Sl w lo B a kk) → Row w lo B k b o
  | .nil, _, _, _, _, _ => trivial
  | .node x y p kk r, b, o, h1, h2, h => by
    obtain ⟨x', y', s, v, kk', a, c, e, c0, c1, c2, hs⟩ := h 0 (by simp [flen])
    simp only [fdrop, BT.node.injEq] at e
    obtain ⟨_, _, rfl, rfl, _⟩ := e
    refine ⟨h1, h2, by simpa using c0, by simpa using c1, ⟨a, c, by simpa using c2, hs⟩, row_of_allX r b (o + 3) h1 h2 fun i hi => ?_⟩
    obtain ⟨x', y', s, v, kk', a, c, e, c0, c1, c2, hs⟩ := h (i + 1) (by simp [flen]; omega)
    have e3 : o + 3 + i * 3 = o + (i + 1) * 3 := by omega
    exact ⟨x', y', s, v, kk', a, c, e, by rw [e3]; exact c0, by rw [e3]; exact c1, by rw [e3]; exact c2, hs⟩

/-- The shape of terms: each row in block b from offset o on, its numbers whatever they are, not frozen; the rows below it each at the head of a block. -/
def Sh (w : World) (lo B : Nat) : Fo → Nat → Nat → Prop
  | .nil, _, _ => True
  | .node _ _ _ k r, b, o => lo ≤ b ∧ b < B ∧ (∃ x, w.cell? ⟨b, o, none⟩ = some (.int .i64 x)) ∧ (∃ x, w.cell? ⟨b, o + 1, none⟩ = some (.int .i64 x)) ∧ w.frozen? ⟨b, o, none⟩ = false ∧ w.frozen? ⟨b, o + 1, none⟩ = false ∧
      (∃ a c, w.cell? ⟨b, o + 2, none⟩ = some (.slice a (flen k) c) ∧ (k = .nil ∨ ∃ b', a = some ⟨b', 0, none⟩ ∧ Sh w lo B k b' 0)) ∧ Sh w lo B r b (o + 3)
/-- What a mark leaves: in the blocks from lo on below B numbers may be others. -/
structure Marked (lo B : Nat) (w w' : World) : Prop where
  below : Below lo w w'
  far : ∀ b, B ≤ b → b < w.heap.size → w'.heap[b]? = w.heap[b]?
  kids : ∀ b o, lo ≤ b → b < B → o % 3 = 2 → w'.cell? ⟨b, o, none⟩ = w.cell? ⟨b, o, none⟩
  ints : ∀ b o x, lo ≤ b → b < B → o % 3 ≠ 2 → w.cell? ⟨b, o, none⟩ = some (.int .i64 x) → ∃ y, w'.cell? ⟨b, o, none⟩ = some (.int .i64 y)
  free : ∀ b o, lo ≤ b → b < B → w.frozen? ⟨b, o, none⟩ = false → w'.frozen? ⟨b, o, none⟩ = false
theorem Marked.refl (lo B : Nat) (w : World) : Marked lo B w w := ⟨Below.refl _ _, fun _ _ _ => rfl, fun _ _ _ _ _ => rfl, fun _ _ x _ _ _ h => ⟨x, h⟩, fun _ _ _ _ h => h⟩
theorem Marked.trans {lo B : Nat} {w w' w2 : World} (h : Marked lo B w w') (h' : Marked lo B w' w2) : Marked lo B w w2 :=
  ⟨h.below.trans h'.below, fun b h1 h2 => (h'.far b h1 (Nat.lt_of_lt_of_le h2 h.below.size)).trans (h.far b h1 h2), fun b o h1 h2 h3 => (h'.kids b o h1 h2 h3).trans (h.kids b o h1 h2 h3),
    fun b o x h1 h2 h3 h4 => by obtain ⟨y, hy⟩ := h.ints b o x h1 h2 h3 h4; exact h'.ints b o y h1 h2 h3 hy, fun b o h1 h2 h3 => h'.free b o h1 h2 (h.free b o h1 h2 h3)⟩
theorem Marked.set {lo B : Nat} {w : World} {b o : Nat} {u : Value} (h1 : lo ≤ b) (h2 : b < B) (h3 : o % 3 ≠ 2) (hc : w.cell? ⟨b, o, none⟩ = some u) (x : Int) : Marked lo B w (w.setCell ⟨b, o, none⟩ (.int .i64 x)) := by
  refine ⟨(Below.refl _ _).setCell h1 _, fun b' h4 h5 => Below.heap_setCell _ _ _ _ (by simp; omega), fun b' o' h4 h5 h6 => ?_, fun b' o' x' h4 h5 h6 h7 => ?_, fun b' o' h4 h5 h6 => by rw [World.frozen?_setCell]; exact h6⟩
  · exact World.cell?_setCell_other _ _ _ _ (by intro e; have := congrArg Addr.off e; simp at this; omega)
  · by_cases e : (⟨b, o, none⟩ : Addr) = ⟨b', o', none⟩
    · rw [← e]
      exact ⟨x, World.cell?_setCell_same _ _ _ hc⟩
    · exact ⟨x', by rw [World.cell?_setCell_other _ _ _ _ e]; exact h7⟩
theorem Marked.more {lo B : Nat} {w w' w2 : World} (h : Marked lo B w w') (hb : Below w'.heap.size w' w2) (hB : B ≤ w.heap.size) (hlo : lo ≤ w.heap.size) : Marked lo B w w2 := by
  have hs := h.below.size
  refine ⟨h.below.trans (hb.mono (by omega)), fun b h1 h2 => (hb.block b (by omega)).trans (h.far b h1 h2), fun b o h1 h2 h3 => by rw [hb.cell (by simp; omega)]; exact h.kids b o h1 h2 h3,
    fun b o x h1 h2 h3 h4 => by obtain ⟨y, hy⟩ := h.ints b o x h1 h2 h3 h4; exact ⟨y, by rw [hb.cell (by simp; omega)]; exact hy⟩, fun b o h1 h2 h3 => by rw [hb.frozen (by simp; omega)]; exact h.free b o h1 h2 h3⟩
theorem Sh.marked {w w' : World} {lo B : Nat} (hm : Marked lo B w w') : ∀ (k : Fo) (b o : Nat), o % 3 = 0 → Sh w lo B k b o → Sh w' lo B k b o
  | .nil, _, _, _, _ => trivial
  | .node _ _ _ k r, b, o, ho, ⟨h1, h2, ⟨x, hx⟩, ⟨y, hy⟩, f0, f1, ⟨a, c, hc, hk⟩, hr⟩ => by
    refine ⟨h1, h2, hm.ints b o x h1 h2 (by omega) hx, hm.ints b (o + 1) y h1 h2 (by omega) hy, hm.free b o h1 h2 f0, hm.free b (o + 1) h1 h2 f1, ⟨a, c, by rw [hm.kids b (o + 2) h1 h2 (by omega)]; exact hc, ?_⟩, Sh.marked hm r b (o + 3) (by omega) hr⟩
    rcases hk with hk | ⟨b', e, hk⟩
    · exact .inl hk
    · exact .inr ⟨b', e, Sh.marked hm k b' 0 rfl hk⟩
theorem frozen_same {w w' : World} {b o : Nat} (h : w'.heap[b]? = w.heap[b]?) : w'.frozen? ⟨b, o, none⟩ = w.frozen? ⟨b, o, none⟩ := by simp only [World.frozen?, h]
theorem Sh.same {w w' : World} {lo B : Nat} (hb : Same lo B w w') : ∀ (k : Fo) (b o : Nat), Sh w lo B k b o → Sh w' lo B k b o
  | .nil, _, _, _ => trivial
  | .node _ _ _ k r, b, o, ⟨h1, h2, ⟨x, hx⟩, ⟨y, hy⟩, f0, f1, ⟨a, c, hc, hk⟩, hr⟩ => by
    refine ⟨h1, h2, ⟨x, by rw [hb.cell h1 h2]; exact hx⟩, ⟨y, by rw [hb.cell h1 h2]; exact hy⟩, by rw [frozen_same (hb b h1 h2)]; exact f0, by rw [frozen_same (hb b h1 h2)]; exact f1, ⟨a, c, by rw [hb.cell h1 h2]; exact hc, ?_⟩, Sh.same hb r b (o + 3) hr⟩
    rcases hk with hk | ⟨b', e, hk⟩
    · exact .inl hk
    · exact .inr ⟨b', e, Sh.same hb k b' 0 hk⟩
theorem Sh.mono {w : World} {lo lo' B B' : Nat} (hlo : lo' ≤ lo) (hB : B ≤ B') : ∀ (k : Fo) (b o : Nat), Sh w lo B k b o → Sh w lo' B' k b o
  | .nil, _, _, _ => trivial
  | .node _ _ _ k r, b, o, ⟨h1, h2, hx, hy, f0, f1, ⟨a, c, hc, hk⟩, hr⟩ => by
    refine ⟨by omega, by omega, hx, hy, f0, f1, ⟨a, c, hc, ?_⟩, Sh.mono hlo hB r b (o + 3) hr⟩
    rcases hk with hk | ⟨b', e, hk⟩
    · exact .inl hk
    · exact .inr ⟨b', e, Sh.mono hlo hB k b' 0 hk⟩
theorem Sh.drop {w : World} {lo B : Nat} : ∀ (i : Nat) (k : Fo) (b o : Nat), Sh w lo B k b o → Sh w lo B (fdrop i k) b (o + i * 3)
  | 0, _, _, _, h => by simpa [fdrop] using h
  | _ + 1, .nil, _, _, _ => trivial
  | n + 1, .node _ _ _ _ r, b, o, h => by
    have := Sh.drop n r b (o + 3) h.2.2.2.2.2.2.2
    rw [fdrop, show o + (n + 1) * 3 = o + 3 + n * 3 from by omega]
    exact this
def ShS (w : World) (lo B : Nat) (a : Option Addr) (k : Fo) : Prop := k = .nil ∨ ∃ b, a = some ⟨b, 0, none⟩ ∧ Sh w lo B k b 0
theorem sh_of_all {w : World} {lo B : Nat} : ∀ (k : Fo) (b o : Nat), lo ≤ b → b < B → (∀ j, w.frozen? ⟨b, j, none⟩ = false) →
    (∀ i, i < flen k → ∃ x y s v kk a c, fdrop i k = .node x y (s, v) kk (fdrop (i + 1) k) ∧ w.cell? ⟨b, o + i * 3, none⟩ = some (.int .i64 s) ∧ w.cell? ⟨b, o + i * 3 + 1, none⟩ = some (.int .i64 v) ∧
      w.cell? ⟨b, o + i * 3 + 2, none⟩ = some (.slice a (flen kk) c) ∧ ShS w lo B a kk) → Sh w lo B k b o
  | .nil, _, _, _, _, _, _ => trivial
  | .node x y p kk r, b, o, h1, h2, hf, h => by
    obtain ⟨x', y', s, v, kk', a, c, e, c0, c1, c2, hs⟩ := h 0 (by simp [flen])
    simp only [fdrop, BT.node.injEq] at e
    obtain ⟨_, _, rfl, rfl, _⟩ := e
    refine ⟨h1, h2, ⟨_, by simpa using c0⟩, ⟨_, by simpa using c1⟩, hf _, hf _, ⟨a, c, by simpa using c2, hs⟩, sh_of_all r b (o + 3) h1 h2 hf fun i hi => ?_⟩
    obtain ⟨x', y', s, v, kk', a, c, e, c0, c1, c2, hs⟩ := h (i + 1) (by simp [flen]; omega)
    have e3 : o + 3 + i * 3 = o + (i + 1) * 3 := by omega
    exact ⟨x', y', s, v, kk', a, c, e, by rw [e3]; exact c0, by rw [e3]; exact c1, by rw [e3]; exact c2, hs⟩
/-- The terms k lie there, each row at the head of a block of its own. -/
def SX (w : World) (lo B : Nat) (a : Option Addr) (k : Fo) : Prop := Sl w lo B a k ∧ ShS w lo B a k
theorem SX.same {w w' : World} {lo B : Nat} {a : Option Addr} {k : Fo} (hb : Same lo B w w') (h : SX w lo B a k) : SX w' lo B a k := by
  refine ⟨h.1.same hb, ?_⟩
  rcases h.2 with h | ⟨b, e, h⟩
  · exact .inl h
  · exact .inr ⟨b, e, h.same hb⟩
theorem SX.mono {w : World} {lo lo' B B' : Nat} {a : Option Addr} {k : Fo} (hlo : lo' ≤ lo) (hB : B ≤ B') (h : SX w lo B a k) : SX w lo' B' a k := by
  refine ⟨h.1.mono hlo hB, ?_⟩
  rcases h.2 with h | ⟨b, e, h⟩
  · exact .inl h
  · exact .inr ⟨b, e, h.mono hlo hB⟩

def ToPostT (s v : Int) (k : Fo) (w : World) (e : Ending) (w' : World) : Prop :=
  ∃ a c, e = .returned (.agg #[.int .i64 s, .int .i64 v, .slice a (flen k) c]) ∧ Below w.heap.size w w' ∧ SX w' w.heap.size w'.heap.size a k
def TosPostT (k : Fo) (w : World) (e : Ending) (w' : World) : Prop :=
  ∃ a c, e = .returned (.slice a (flen k) c) ∧ Below w.heap.size w w' ∧ SX w' w.heap.size w'.heap.size a k

theorem to_endT {w w1 : World} {s v : Int} {k : Fo} {a : Option Addr} {c : Nat} {n : Nat} (hn : n = w.heap.size) (hb : Below n w w1) (hl : SX w1 (n + 3) w1.heap.size a k) (u x y z : Value) :
    ToPostT s v k w (.returned (.agg #[.int .i64 s, .int .i64 v, .slice a (flen k) c])) ((((w1.setCell ⟨n + 1 + 1, 2, none⟩ u).setCell ⟨n + 1, 0, none⟩ x).setCell ⟨n + 1, 1, none⟩ y).setCell ⟨n + 1, 2, none⟩ z) := by
  subst hn
  refine ⟨a, c, rfl, (((hb.setCell (by simp; omega) _).setCell (by simp) _).setCell (by simp) _).setCell (by simp) _, ?_⟩
  have hs : Same (w.heap.size + 3) w1.heap.size w1 ((((w1.setCell ⟨w.heap.size + 1 + 1, 2, none⟩ u).setCell ⟨w.heap.size + 1, 0, none⟩ x).setCell ⟨w.heap.size + 1, 1, none⟩ y).setCell ⟨w.heap.size + 1, 2, none⟩ z) :=
    ((((Same.setCell (fun _ _ _ => rfl) (.inl (by simp)) _).setCell (.inl (by simp)) _).setCell (.inl (by simp)) _).setCell (.inl (by simp)) _)
  exact (hl.same hs).mono (by omega) (by simp)

/-- What holds at the head of toTermS's loop. -/
structure ToAtT (w : World) (k : Fo) (j : Nat) (wr : World) : Prop where
  below : Below w.heap.size w wr
  size : w.heap.size < wr.heap.size
  row : ∃ f : Nat → Value, wr.rowIs w.heap.size 25 (flen k * 3) f ∧ ∀ i, i < j → ∃ x y s v kk a c, fdrop i k = .node x y (s, v) kk (fdrop (i + 1) k) ∧
    f (i * 3) = .int .i64 s ∧ f (i * 3 + 1) = .int .i64 v ∧ f (i * 3 + 2) = .slice a (flen kk) c ∧ SX wr (w.heap.size + 1) wr.heap.size a kk

theorem ToAtT.start (w : World) (k : Fo) : ToAtT w k 0 (w.alloc (.cells (madeCells #[.int .i64 0, .int .i64 0, .slice none 0 0] (flen k * 3)) 25)) := by
  refine ⟨(Below.refl _ _).alloc (Nat.le_refl _) _, by simp, ⟨fun i => #[Value.int .i64 0, .int .i64 0, .slice none 0 0][i % 3]!, ?_, fun i hi => by omega⟩⟩
  have := World.rowIs_alloc w (madeCells #[.int .i64 0, .int .i64 0, .slice none 0 0] (flen k * 3)) 25 (fun i => #[Value.int .i64 0, .int .i64 0, .slice none 0 0][i % 3]!) (fun i hi => by
    rw [size_madeCells] at hi
    exact made_at _ _ _ hi)
  rw [size_madeCells] at this
  exact this
theorem ToAtT.step {w wr w2 : World} {k : Fo} {j x y : Nat} {s v : Int} {kk : Fo} {a : Option Addr} {c : Nat} (h : ToAtT w k j wr) (hd : fdrop j k = .node x y (s, v) kk (fdrop (j + 1) k)) (hb : Below wr.heap.size wr w2) (hl : SX w2 wr.heap.size w2.heap.size a kk) :
    ToAtT w k (j + 1) (((w2.setCell ⟨w.heap.size, j * 3, none⟩ (.int .i64 s)).setCell ⟨w.heap.size, j * 3 + 1, none⟩ (.int .i64 v)).setCell ⟨w.heap.size, j * 3 + 2, none⟩ (.slice a (flen kk) c)) := by
  have hs := h.size
  have hs2 := hb.size
  obtain ⟨f, hf, hall⟩ := h.row
  have hf2 := hf.of_block (hb.block _ hs)
  have hsame : ∀ {L H : Nat}, w.heap.size < L → Same L H w2 (((w2.setCell ⟨w.heap.size, j * 3, none⟩ (.int .i64 s)).setCell ⟨w.heap.size, j * 3 + 1, none⟩ (.int .i64 v)).setCell ⟨w.heap.size, j * 3 + 2, none⟩ (.slice a (flen kk) c)) := fun hL =>
    ((Same.setCell (fun _ _ _ => rfl) (.inl hL) _).setCell (.inl hL) _).setCell (.inl hL) _
  refine ⟨(((h.below.trans (hb.mono (by omega))).setCell (by simp) _).setCell (by simp) _).setCell (by simp) _, by simp; omega, ⟨_, ((hf2.set _ _).set _ _).set _ _, fun i hi => ?_⟩⟩
  by_cases hij : i = j
  · subst hij
    exact ⟨x, y, s, v, kk, a, c, hd, by simp, by simp, by simp, (hl.same (hsame (by omega))).mono (by omega) (by simp)⟩
  · obtain ⟨x', y', s', v', k', a', c', e, h0, h1, h2, hsl⟩ := hall i (by omega)
    refine ⟨x', y', s', v', k', a', c', e, ?_, ?_, ?_, ((hsl.same (fun b h1 h2 => hb.block b h2)).same (hsame (by omega))).mono (Nat.le_refl _) (by simp; omega)⟩
    · rw [if_neg (by omega), if_neg (by omega), if_neg (by omega)]; exact h0
    · rw [if_neg (by omega), if_neg (by omega), if_neg (by omega)]; exact h1
    · rw [if_neg (by omega), if_neg (by omega), if_neg (by omega)]; exact h2
theorem ToAtT.sl {w wr : World} {k : Fo} {j : Nat} (h : ToAtT w k j wr) (hj : flen k ≤ j) : SX wr w.heap.size wr.heap.size (some ⟨w.heap.size, 0, none⟩) k := by
  obtain ⟨f, hf, hall⟩ := h.row
  have key : ∀ i, i < flen k → ∃ x y s v kk a c, fdrop i k = .node x y (s, v) kk (fdrop (i + 1) k) ∧ wr.cell? ⟨w.heap.size, 0 + i * 3, none⟩ = some (.int .i64 s) ∧ wr.cell? ⟨w.heap.size, 0 + i * 3 + 1, none⟩ = some (.int .i64 v) ∧
      wr.cell? ⟨w.heap.size, 0 + i * 3 + 2, none⟩ = some (.slice a (flen kk) c) ∧ SX wr w.heap.size wr.heap.size a kk := fun i hi => by
    obtain ⟨x, y, s, v, kk, a, c, e, h0, h1, h2, hs⟩ := hall i (by omega)
    refine ⟨x, y, s, v, kk, a, c, e, ?_, ?_, ?_, hs.mono (by omega) (Nat.le_refl _)⟩
    · rw [Nat.zero_add, ← h0]; exact hf.cell (by omega)
    · rw [Nat.zero_add, ← h1]; exact hf.cell (by omega)
    · rw [Nat.zero_add, ← h2]; exact hf.cell (by omega)
  refine ⟨.inr ⟨_, 0, rfl, row_of_allX k _ 0 (Nat.le_refl _) h.size fun i hi => ?_⟩, .inr ⟨_, rfl, sh_of_all k _ 0 (Nat.le_refl _) h.size (fun j => hf.frozen j) fun i hi => ?_⟩⟩
  · obtain ⟨x, y, s, v, kk, a, c, e, h0, h1, h2, hs⟩ := key i hi
    exact ⟨x, y, s, v, kk, a, c, e, h0, h1, h2, hs.1⟩
  · obtain ⟨x, y, s, v, kk, a, c, e, h0, h1, h2, hs⟩ := key i hi
    exact ⟨x, y, s, v, kk, a, c, e, h0, h1, h2, hs.2⟩

end Go.Proofs.YtbnbogdglffkmaaGreatDoor
