/- nodeAt: the node that stands at a place. -/
import Derived.Test.YtebalmemncldlabP3
namespace Go.Proofs.Ytebalmemncldlab
open Go.RowKit Go.Deep

theorem isl_get {w : World} {lo B : Nat} {a : Option Addr} {xs : List Int} {i : Nat} (h : ISl w lo B a xs) (hi : i < xs.length) :
    ∃ b o, a = some ⟨b, o, none⟩ ∧ lo ≤ b ∧ b < B ∧ w.cell? ⟨b, o + i, none⟩ = some (.int .i64 xs[i]) := by
  rcases h with rfl | ⟨b, o, e, h1, h2, h3⟩
  · simp at hi
  · exact ⟨b, o, e, h1, h2, h3 i _ (List.getElem?_eq_getElem hi)⟩

/-- What stands at a place. -/
def fat : Int → Int → Fo → List Int → Option (Int × Int × Fo)
  | s, v, k, [] => some (s, v, k)
  | _, _, k, i :: ps => if 0 ≤ i ∧ i < (flen k : Int) then (match fdrop i.toNat k with
    | .node _ _ (s', v') kk _ => fat s' v' kk ps
    | .nil => none) else none

def NaPost (s v : Int) (k : Fo) (place : List Int) (w : World) (e : Ending) (w' : World) : Prop :=
  Below w.heap.size w w' ∧ ((∃ s' v' k' nv, fat s v k place = some (s', v', k') ∧ e = .returned (.tuple #[nv, .bool true]) ∧ NodeIs w 0 w.heap.size nv s' v' k') ∨ (fat s v k place = none ∧ e = .returned (.tuple #[.nilIface, .bool false])))

set_option maxRecDepth 100000 in
set_option maxHeartbeats 1000000 in
theorem nodeAt_any (s v : Int) (k : Fo) (nv : Value) (pA : Option Addr) (pC : Nat) (place : List Int) (w : World) (hn : NodeIs w 0 w.heap.size nv s v k) (hp : ISl w 0 w.heap.size pA place) (hpl : place.length ≤ 1048576) :
    Calls Try.prog 55 #[nv, .slice pA place.length pC] w (NaPost s v k place w) := by
  have HN := Lib.hid hn
  have HP := Lib.hid hp
  clear hn hp
  obtain ⟨ty, vv, rfl⟩ : ∃ ty vv, nv = .iface ty vv := by
    rcases HN.out with ⟨_, _, rfl⟩ | ⟨_, _, _, rfl, _⟩
    · exact ⟨_, _, rfl⟩
    · exact ⟨_, _, rfl⟩
  go_enter Try.func55, Try.ntmps55
  go_wp2_with fail
  go_loopw [0, 11] (fun t i wr => ∃ (j : Nat) (s' v' : Int) (k' : Fo) (ty' : TypeId) (vv' : Value), j ≤ place.length ∧ i = .int .i64 j ∧ t = .iface ty' vv' ∧ Hid (fat s v k place = fat s' v' k' (place.drop j)) ∧ NodeIs w 0 w.heap.size t s' v' k' ∧ Below w.heap.size w wr) (fun _ i _ => place.length - (intOf i).toNat)
  case atStart => exact ⟨0, s, v, k, ty, vv, by omega, rfl, rfl, by simp [Hid], HN.out, Below.refl _ _⟩
  case round =>
    obtain ⟨j, s', v', k', ty', vv', hj, rfl, rfl, hf, hn, hbl⟩ := hrel
    have hbs := hbl.size
    by_cases hlt : j < place.length
    · obtain ⟨b, o, rfl, _, hbB, hc⟩ := isl_get (HP.out.below hbl) hlt
      have hdr : place.drop j = place[j] :: place.drop (j + 1) := List.drop_eq_getElem_cons hlt
      rw [hdr] at hf
      generalize place[j] = x at hc hf
      have g1 : (0 : Int) ≤ (j : Int) := by omega
      have g2 : (j : Int) < (place.length : Int) := by omega
      have HF := Lib.hid hf.out
      have HNR := Lib.hid (hn.below hbl)
      have HNW := Lib.hid hn
      have HBL := Lib.hid hbl
      clear hf hn hbl hdr
      go_wp2_with fail
      with_reducible refine (kidsOf_any s' v' k' _ w.heap.size _ HNR.out).mono ?_
      rintro e w3 ⟨a3, c3, rfl, hb3, hns⟩
      have hs3 := hb3.size
      have HB3 := Lib.hid (HBL.out.trans (hb3.mono hbs))
      have HNS := Lib.hid (hns.below (hb3.mono hbs))
      clear hb3 hns
      by_cases hx0 : x < 0
      · have HE : Hid (fat s v k place = none) := by rw [Hid, HF.out]; simp only [fat]; rw [if_neg (by omega)]
        go_wp2_with fail
        go_ret2
        exact ⟨HB3.out, .inr ⟨HE.out, rfl⟩⟩
      by_cases hx1 : (flen k' : Int) ≤ x
      · have HE : Hid (fat s v k place = none) := by rw [Hid, HF.out]; simp only [fat]; rw [if_neg (by omega)]
        go_wp2_with fail
        go_ret2
        exact ⟨HB3.out, .inr ⟨HE.out, rfl⟩⟩
      obtain ⟨q, rfl⟩ : ∃ q : Nat, x = q := ⟨x.toNat, by omega⟩
      have hq : q < flen k' := by omega
      obtain ⟨bk, ok, rfl⟩ : ∃ bk ok, a3 = some ⟨bk, ok, none⟩ := by
        rcases HNS.out with rfl | ⟨b, o, rfl, _⟩
        · simp [flen] at hq
        · exact ⟨_, _, rfl⟩
      have hrow : NRow w3 0 w.heap.size k' bk ok := by
        rcases HNS.out with rfl | ⟨b, o, e, h⟩
        · simp [flen] at hq
        · cases e; exact h
      obtain ⟨s2, v2, kk, val, ⟨x2, y2, hd⟩, _, hbB2, hk0, hnk⟩ := nrow_at hrow hq
      obtain ⟨ty2, vv2, rfl⟩ : ∃ ty vv, val = .iface ty vv := by
        rcases hnk with ⟨_, _, rfl⟩ | ⟨_, _, _, rfl, _⟩
        · exact ⟨_, _, rfl⟩
        · exact ⟨_, _, rfl⟩
      have HE : Hid (fat s v k place = fat s2 v2 kk (place.drop (j + 1))) := by
        rw [Hid, HF.out]; simp only [fat]; rw [if_pos (by omega)]
        simp only [Int.toNat_natCast, hd]
      have HNK : Hid (NodeIs w 0 w.heap.size (.iface ty2 vv2) s2 v2 kk) := hnk.same (fun b _ hb => (HB3.out.block b hb).symm)
      clear hrow hd hnk
      go_wp2_with fail
      go_roundw
      case rel => exact ⟨j + 1, s2, v2, kk, ty2, vv2, by omega, by go_num, rfl, HE.out, HNK.out, HB3.out⟩
      case measure => simp [intOf]; omega
    · have HE : Hid (fat s v k place = some (s', v', k')) := by
        rw [Hid, hf.out, List.drop_eq_nil_of_le (by omega)]; rfl
      have HBL := Lib.hid hbl
      have HNW := Lib.hid hn
      clear hbl hn hf
      go_wp2_with fail
      go_ret2
      exact ⟨HBL.out, .inl ⟨s', v', k', _, HE.out, rfl, HNW.out⟩⟩
end Go.Proofs.Ytebalmemncldlab
