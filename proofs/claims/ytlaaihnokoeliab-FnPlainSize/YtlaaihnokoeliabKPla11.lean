/- Several texts in one: WK0, P6a, P7a, PS2, ML0, SHv, V3, ML. -/
import Derived.Test.YtlaaihnokoeliabKPla10
import Derived.Test.YtlaaihnokoeliabKPla6
import Derived.Test.YtlaaihnokoeliabKPla8
import Derived.Test.YtlaaihnokoeliabKPla9
import Derived.Test.YtlaaihnokoeliabProg
import Derived.Shelf.Sort.Plain
import Derived.Shelf.Slices.CompactI
import Derived.Shelf.Slices.In.SortNone
import Derived.Ground.NamesProg
import Derived.Ground.Names2Prog
import Derived.Sort.OwnSortedInts
import Derived.Lib.OwnBridge

/-! WK0: l71Some. -/
namespace Go.Proofs.Ytlaaihnokoeliab
open Go.RowKit Go.Deep

set_option maxRecDepth 100000 in
set_option maxHeartbeats 1000000 in
theorem l71Some_any (br p : Nat) (w : World) (hr : Rd w br p) (hp : p ≤ 10000000) :
    Calls Try.prog 57 #[.pointer (some ⟨br, 0, none⟩)] w (DrawnPost br p 100 31000 w) := by
  have hlt := hr.lt
  have hr' := hr.alloc (.cells #[.int .i64 0, .int .i64 0, .slice none 0 0] 25)
  have HA0 := Lib.hid (Adv.start hr' (Below.refl _ _))
  have HR0 := Lib.hid hr'
  clear hr hr'
  go_enter Try.func57, Try.ntmps57
  go_wp2_with fail
  with_reducible refine (pick_any 2 br p _ HR0.out (by omega) (by omega) (by omega)).mono ?_
  rintro e w1 ⟨x, rfl, hx, hb1⟩
  have ha1 := HA0.out.trans hb1
  have hx2 : x < 2 := by omega
  have HR1 := Lib.hid (Adv.rd hb1 HR0.out)
  have HA1 := Lib.hid ha1
  clear hb1 ha1 hx
  have hs1 := HA1.out.size
  simp at hs1
  have hpb : Hid (p + 1 + pkN 4 ≤ 100000000) := by
    have h93 : pkN 4 = 93 := by decide
    unfold Hid
    omega
  go_wp2_with fail
  with_reducible refine (l71Term_any 4 (3 + x) 3 br (p + 1) _ (by omega) (by omega) (by omega) (by omega) (by omega) HR1.out hpb.out).mono ?_
  rintro e w2 ⟨s, v, a2, c2, k, p2, rfl, hp1, hp2, hS2, ha2, hl2⟩
  have hp2' : p2 ≤ p + 1 + 93 := by simpa [pkN] using hp2
  have hS2' : 1 + fsz k ≤ 31 := by simpa [szN] using hS2
  have HR2 := Lib.hid (ha2.rd HR1.out)
  have HA2 := Lib.hid (HA1.out.trans ha2)
  have hs2 := ha2.size
  have HL2 := Lib.hid (hl2.mono (lo' := w.heap.size + 1) (by omega) (Nat.le_refl _))
  clear ha2 hl2 hp2 hS2
  go_wp2_with fail
  with_reducible refine (pick_any 14 br p2 _ (HR2.out.alloc _) (by omega) (by omega) (by omega)).mono ?_
  rintro e w3 ⟨y, rfl, hy, hb3⟩
  have ha3 : Adv (w2.alloc (.cells #[.int .i64 s, .int .i64 v, .slice a2 (flen k) c2] 25)) br (p2 + 1) w3 := hb3
  have hs3 := ha3.size
  simp at hs3
  have hlt2 : br < w2.heap.size := HR2.out.lt
  have HA3 := Lib.hid ((HA2.out.alloc (.cells #[.int .i64 s, .int .i64 v, .slice a2 (flen k) c2] 25)).trans ha3)
  have HR3 := Lib.hid (ha3.rd (HR2.out.alloc _))
  have HL3 := Lib.hid ((HL2.out.low ((Below.refl _ _).alloc (Nat.le_refl _) _)).adv ha3 (by omega))
  have hc0 := ha3.cell (q := ⟨w2.heap.size, 0, none⟩) (v := .int .i64 s) (by simp) (by simp; omega)
  have hc1 := ha3.cell (q := ⟨w2.heap.size, 1, none⟩) (v := .int .i64 v) (by simp) (by simp; omega)
  have hc2 := ha3.cell (q := ⟨w2.heap.size, 2, none⟩) (v := .slice a2 (flen k) c2) (by simp) (by simp; omega)
  clear ha3 hb3 hy
  by_cases hy0 : y = 0
  · subst hy0
    go_wp2_with fail
    with_reducible refine (l71Bad_any s v a2 c2 k br (p2 + 1) 31 _ (HL3.out.mono (Nat.zero_le _) (Nat.le_refl _)) HR3.out (by omega) (by omega) (by omega)).mono ?_
    rintro e w4 ⟨s4, v4, a4, c4, k4, p4, rfl, hp3, hp4, hS4, ha4, hl4⟩
    have ha5 := HA3.out.trans ha4
    obtain ⟨hr0, hr1, hr2, hf0, hf1, hf2⟩ := res_cells ha5 hlt
    have HA5 := Lib.hid ha5
    have HL4 := Lib.hid (hl4.mono (lo' := w.heap.size + 1) (by omega) (Nat.le_refl _))
    clear ha4 hl4 ha5 hc0 hc1 hc2
    go_wp2_with fail
    refine bodyPost_ret (v := .agg #[.int .i64 s4, .int .i64 v4, .slice a4 (flen k4) c4]) ?_ rfl (drawn_end HA5.out hlt (by omega) (by omega) (by omega) HL4.out)
    simp [results, Try.results57, go_sem, hr0, hr1, hr2]
  · have y0 : ((y : Int) == 0) = false := by simpa using hy0
    obtain ⟨hr0, hr1, hr2, hf0, hf1, hf2⟩ := res_cells HA3.out hlt
    go_wp2_with fail
    refine bodyPost_ret (v := .agg #[.int .i64 s, .int .i64 v, .slice a2 (flen k) c2]) ?_ rfl (drawn_end HA3.out hlt (by omega) (by omega) (by omega) HL3.out)
    simp [results, Try.results57, go_sem, hr0, hr1, hr2]
end Go.Proofs.Ytlaaihnokoeliab

/-! P6a: impl.TermPlaces and spec.TermPlaces: of a term the places, of any other value none. -/
namespace Go.Proofs.Ytlaaihnokoeliab
open Go.RowKit Go.Deep

set_option maxRecDepth 100000 in
set_option maxHeartbeats 1000000 in
theorem iTermPlaces_any (s v : Int) (a : Option Addr) (c : Nat) (k : Fo) (w : World) (hl : Sl w 0 w.heap.size a k) :
    Calls Try.prog 18 #[.agg #[.int .i64 s, .int .i64 v, .slice a (flen k) c]] w (TpPost s v k w) := by
  cases hok : okW s v k 16 with
  | false =>
    have HOK := Lib.hid hok
    clear hok
    go_enter Try.func18, Try.ntmps18
    go_wp2_with fail
    with_reducible refine (nodeOf_any s v a c k 16 _ ?_ (by omega) (by omega)).mono ?_
    · exact (hl.below ((Below.refl _ _).alloc (Nat.le_refl _) _)).mono (Nat.le_refl _) (by simp)
    rintro e w2 ⟨nv, he, hb, hyes⟩
    rw [HOK.out] at he
    subst he
    clear hyes
    go_wp2_with fail
    go_ret
    exact ⟨none, 0, [], rfl, by rw [HOK.out]; rfl, ((Below.refl _ _).alloc (Nat.le_refl _) _).trans (hb.mono (by simp)), .inl rfl⟩
  | true =>
    have HOK := Lib.hid hok
    have hsz := ((okW_iff _ _ _ _).1 hok).2.2
    clear hok
    go_enter Try.func18, Try.ntmps18
    go_wp2_with fail
    with_reducible refine (nodeOf_any s v a c k 16 _ ?_ (by omega) (by omega)).mono ?_
    · exact (hl.below ((Below.refl _ _).alloc (Nat.le_refl _) _)).mono (Nat.le_refl _) (by simp)
    rintro e w2 ⟨nv, he, hb, hyes⟩
    rw [HOK.out] at he
    subst he
    have HN := Lib.hid (hyes HOK.out)
    have HB := Lib.hid (((Below.refl _ _).alloc (Nat.le_refl _) _).trans (hb.mono (by simp)))
    have hs2 := HB.out.size
    clear hyes hb
    obtain ⟨ty, vv, rfl⟩ : ∃ ty vv, nv = .iface ty vv := by
      rcases HN.out with ⟨_, _, rfl⟩ | ⟨_, _, _, rfl, _⟩
      · exact ⟨_, _, rfl⟩
      · exact ⟨_, _, rfl⟩
    go_wp2_with fail
    with_reducible refine (placesOf_any (fsz k) s v k _ _ ?_ (Nat.le_refl _) (by omega)).mono ?_
    · exact HN.out.mono (Nat.zero_le _) (Nat.le_refl _)
    rintro e w3 ⟨A, C, rfl, hb3, hr3⟩
    have HP : Hid (TpPost s v k w (.returned (.slice A (places k).length C)) w3) :=
      ⟨A, C, places k, rfl, by rw [HOK.out]; rfl, HB.out.trans (hb3.mono hs2), hr3.mono hs2 (Nat.le_refl _)⟩
    clear hb3 hr3
    go_wp2_with fail
    go_ret
    exact HP.out

end Go.Proofs.Ytlaaihnokoeliab

/-! P7a: Each place is there, none twice: plain. -/
namespace Go.Proofs.Ytlaaihnokoeliab
open Go.RowKit Go.Deep

mutual
theorem fpl_at : ∀ (r : Fo) (s v : Int) (k : Fo) (i : Nat) (p : List Int), fdrop i k = r → p ∈ fpl r i → ∃ x, fat s v k p = some x
  | .nil, _, _, _, _, _, _, hp => by simp [fpl] at hp
  | .node x y (s', v') kk r, s, v, k, i, p, hd, hp => by
    simp only [fpl, List.mem_append, List.mem_map] at hp
    rcases hp with ⟨q, hq, rfl⟩ | hp
    · have hi : i < flen k := by
        by_cases h : i < flen k
        · exact h
        · rw [fdrop_all (by omega)] at hd; cases hd
      obtain ⟨z, hz⟩ := places_at kk s' v' q hq
      refine ⟨z, ?_⟩
      simp only [fat]
      rw [if_pos (by omega)]
      simp only [Int.toNat_natCast, hd]
      exact hz
    · have hd' : fdrop (i + 1) k = r := by
        have hi : i < flen k := by
          by_cases h : i < flen k
          · exact h
          · rw [fdrop_all (by omega)] at hd; cases hd
        obtain ⟨x', y', s2, v2, kk2, e⟩ := fdrop_succ i k hi
        rw [hd] at e
        simp only [BT.node.injEq] at e
        exact e.2.2.2.2.symm
      exact fpl_at r s v k (i + 1) p hd' hp
  termination_by r => (SizeOf.sizeOf r, 0)
theorem places_at : ∀ (k : Fo) (s v : Int) (p : List Int), p ∈ [] :: fpl k 0 → ∃ x, fat s v k p = some x
  | k, s, v, p, hp => by
    rcases List.mem_cons.1 hp with rfl | hp
    · exact ⟨_, rfl⟩
    · exact fpl_at k s v k 0 p rfl hp
  termination_by k => (SizeOf.sizeOf k, 1)
end

theorem fpl_head : ∀ (k : Fo) (i : Nat) (p : List Int), p ∈ fpl k i → ∃ (j : Nat) (q : List Int), p = (j : Int) :: q ∧ i ≤ j
  | .nil, _, _, hp => by simp [fpl] at hp
  | .node _ _ _ kk r, i, p, hp => by
    simp only [fpl, List.mem_append, List.mem_map] at hp
    rcases hp with ⟨q, _, rfl⟩ | hp
    · exact ⟨i, q, rfl, Nat.le_refl _⟩
    · obtain ⟨j, q, e, h⟩ := fpl_head r (i + 1) p hp
      exact ⟨j, q, e, by omega⟩
theorem nil_fpl {k : Fo} {i : Nat} {b : List Int} (hb : b ∈ fpl k i) : [] ≠ b := by
  obtain ⟨j, q, e, _⟩ := fpl_head k i b hb
  intro e'
  rw [e] at e'
  cases e'
theorem fpl_apart : ∀ (k : Fo) (i : Nat), (fpl k i).Pairwise (· ≠ ·)
  | .nil, _ => List.Pairwise.nil
  | .node _ _ _ kk r, i => by
    simp only [fpl]
    rw [List.pairwise_append]
    refine ⟨?_, fpl_apart r (i + 1), fun a ha b hb => ?_⟩
    · rw [List.pairwise_map]
      have h : ([] :: fpl kk 0).Pairwise (· ≠ ·) := List.pairwise_cons.2 ⟨fun _ hb => nil_fpl hb, fpl_apart kk 0⟩
      exact h.imp fun hne e => hne (List.cons.inj e).2
    · obtain ⟨q, _, rfl⟩ := List.mem_map.1 ha
      obtain ⟨j, q', rfl, hj⟩ := fpl_head r (i + 1) b hb
      intro e
      have := (List.cons.inj e).1
      omega
theorem places_apart (k : Fo) : (places k).Pairwise (· ≠ ·) :=
  List.pairwise_cons.2 ⟨fun _ hb => nil_fpl hb, fpl_apart k 0⟩
theorem places_unlike {k : Fo} {i j : Nat} {p q : List Int} (hi : (places k)[i]? = some p) (hj : (places k)[j]? = some q) (hij : i < j) : p ≠ q := by
  obtain ⟨h1, rfl⟩ := List.getElem?_eq_some_iff.1 hi
  obtain ⟨h2, rfl⟩ := List.getElem?_eq_some_iff.1 hj
  exact List.pairwise_iff_getElem.1 (places_apart k) i j h1 h2 hij
end Go.Proofs.Ytlaaihnokoeliab

/-! PS2: What stands at the places of a term with something put in; sums over places. Plain lemmas. -/
namespace Go.Proofs.Ytlaaihnokoeliab
open Go.RowKit Go.Deep

theorem atR_of {s v : Int} {k : Fo} {p : List Int} {s' v' : Int} {k' : Fo} (h : okW s v k 16 = true) (hf : fat s v k p = some (s', v', k')) : atR s v k p = (s', v', k', true) ∧ okW s' v' k' 16 = true := by
  have h1 := (okW_iff _ _ _ _).1 h
  have h2 := fat_ok p s v k h1.1 h1.2.1 hf
  refine ⟨by unfold atR; rw [h, hf]; rfl, (okW_iff _ _ _ _).2 ⟨h2.1, h2.2.1, by omega⟩⟩
theorem sub_parts {bs : List Bd} {s v : Int} {k : Fo} {sx vx : Int} {kx : Fo} {pl : List Int} (hd : sdR bs s v k = (sx, vx, kx, true)) (hp : pl ∈ places k) :
    ∃ s1 v1 k1 s3 v3 k3, atR s v k pl = (s1, v1, k1, true) ∧ sdR bs s1 v1 k1 = (s3, v3, k3, true) ∧ atR sx vx kx pl = (s3, v3, k3, true) := by
  rcases sdR_cases hd with ⟨h, _⟩ | ⟨_, hsok, hok, ht, hokx⟩
  · cases h
  obtain ⟨⟨s1, v1, k1⟩, hf⟩ := places_at k s v pl hp
  have h1 := (okW_iff _ _ _ _).1 hok
  have hF := fat_sub (sv bs) pl s v k h1.1 h1.2.1 hf
  rw [ht] at hF
  dsimp only at hF
  generalize htt : tsub (sv bs) s1 v1 k1 = tt at hF
  obtain ⟨s3, v3, k3⟩ := tt
  have hx := atR_of hokx hF
  refine ⟨s1, v1, k1, s3, v3, k3, (atR_of hok hf).1, sdR_of hsok (atR_of hok hf).2 htt ?_, hx.1⟩
  have := ((okW_iff _ _ _ _).1 hx.2).2.2
  omega
theorem atR_fat {s v : Int} {k : Fo} {p : List Int} {s' v' : Int} {k' : Fo} (h : atR s v k p = (s', v', k', true)) : okW s v k 16 = true ∧ fat s v k p = some (s', v', k') := by
  unfold atR at h
  cases ho : okW s v k 16 with
  | false => rw [ho] at h; simp at h
  | true =>
    rw [ho] at h
    cases hf : fat s v k p with
    | none => rw [hf] at h; simp at h
    | some y => rw [hf] at h; simp at h; obtain ⟨h1, h2, h3⟩ := h; exact ⟨rfl, by obtain ⟨a, b, c⟩ := y; simp_all⟩
def psum (σ : Int → Option (Int × Int × Fo)) (s v : Int) (k : Fo) (j : Nat) : Nat := (((places k).take j).map fun p => pcnt σ (fat s v k p)).sum
theorem psum_zero (σ : Int → Option (Int × Int × Fo)) (s v : Int) (k : Fo) : psum σ s v k 0 = 0 := by simp [psum]
theorem psum_step {σ : Int → Option (Int × Int × Fo)} {s v : Int} {k : Fo} {j : Nat} {pl : List Int} {s1 v1 : Int} {k1 : Fo} (hp : (places k)[j]? = some pl) (hf : fat s v k pl = some (s1, v1, k1)) : psum σ s v k (j + 1) = psum σ s v k j + pcnt σ (some (s1, v1, k1)) := by
  unfold psum
  rw [List.take_add_one, hp]
  simp [hf]
theorem psum_all {bs : List Bd} {s v : Int} {k : Fo} {sx vx : Int} {kx : Fo} {j : Nat} (hd : sdR bs s v k = (sx, vx, kx, true)) (hj : (places k).length ≤ j) : psum (sv bs) s v k j = 1 + fsz kx := by
  rcases sdR_cases hd with ⟨h, _⟩ | ⟨_, hsok, hok, ht, hokx⟩
  · cases h
  have h1 := (okW_iff _ _ _ _).1 hok
  unfold psum
  rw [List.take_of_length_le hj, places_sum (sv bs) h1.1 h1.2.1, ht]
/-- One step of the sum: what stands at a place, what comes of it. -/
theorem psum_at {bs : List Bd} {s v : Int} {k : Fo} {sx vx : Int} {kx : Fo} {j : Nat} {pl : List Int} (hd : sdR bs s v k = (sx, vx, kx, true)) (hp : (places k)[j]? = some pl) :
    ∃ s1 v1 k1 s3 v3 k3, atR s v k pl = (s1, v1, k1, true) ∧ sdR bs s1 v1 k1 = (s3, v3, k3, true) ∧ okW s3 v3 k3 16 = true ∧ (s1 = 0 → psum (sv bs) s v k (j + 1) = psum (sv bs) s v k j + 1 + fsz k3) ∧ (s1 ≠ 0 → psum (sv bs) s v k (j + 1) = psum (sv bs) s v k j + 1) := by
  obtain ⟨s1, v1, k1, s3, v3, k3, h1, h2, h3⟩ := sub_parts hd (List.mem_of_getElem? hp)
  have hf := (atR_fat h1).2
  have hs := psum_step (σ := sv bs) hp hf
  rcases sdR_cases h2 with ⟨h, _⟩ | ⟨_, hsok, hok, ht, hokx⟩
  · cases h
  refine ⟨s1, v1, k1, s3, v3, k3, h1, h2, hokx, fun e => ?_, fun e => ?_⟩
  · subst e
    obtain rfl := kids_none ((okW_iff _ _ _ _).1 hok).1
    rw [hs, pcnt, if_pos rfl, ht]
    dsimp only
    omega
  · rw [hs, pcnt, if_neg e]
end Go.Proofs.Ytlaaihnokoeliab

/-! ML0: What is put in one behind the other, and not smaller. Plain lemmas. -/
namespace Go.Proofs.Ytlaaihnokoeliab
open Go.RowKit Go.Deep

/-- One behind the other. -/
def comp (σ τ : Int → Option (Int × Int × Fo)) (x : Int) : Option (Int × Int × Fo) := (σ x).map fun t => tsub τ t.1 t.2.1 t.2.2
theorem comp_some {σ τ : Int → Option (Int × Int × Fo)} {x : Int} {t : Int × Int × Fo} (h : σ x = some t) : comp σ τ x = some (tsub τ t.1 t.2.1 t.2.2) := by unfold comp; rw [h]; rfl
theorem fsub_zero {σ : Int → Option (Int × Int × Fo)} {x y : Nat} {p : Int × Int} {k r : Fo} (e : p.1 = 0) : fsub σ (.node x y p k r) = .node x y ((tsub σ p.1 p.2 k).1, (tsub σ p.1 p.2 k).2.1) (tsub σ p.1 p.2 k).2.2 (fsub σ r) := by
  simp only [fsub, tsub, if_pos e]
  cases σ p.2 with
  | none => rfl
  | some t => rfl
theorem fsub_sign {σ : Int → Option (Int × Int × Fo)} {x y : Nat} {p : Int × Int} {k r : Fo} : fsub σ (.node x y p k r) = .node x y ((tsub σ p.1 p.2 k).1, (tsub σ p.1 p.2 k).2.1) (tsub σ p.1 p.2 k).2.2 (fsub σ r) := by
  by_cases e : p.1 = 0
  · exact fsub_zero e
  · simp only [fsub, tsub, if_neg e]
theorem tsub_var {σ : Int → Option (Int × Int × Fo)} {s v : Int} {k : Fo} {t : Int × Int × Fo} (e : s = 0) (h : σ v = some t) : tsub σ s v k = t := by unfold tsub; rw [if_pos e, h]; rfl
theorem tsub_sym {σ : Int → Option (Int × Int × Fo)} {s v : Int} {k : Fo} (e : s ≠ 0) : tsub σ s v k = (s, v, fsub σ k) := by unfold tsub; rw [if_neg e]
theorem fsub_comp {σ τ : Int → Option (Int × Int × Fo)} : ∀ k : Fo, (∀ x ∈ fvl k, (σ x).isSome = true) → fsub τ (fsub σ k) = fsub (comp σ τ) k
  | .nil, _ => rfl
  | .node x y p k r, h => by
    simp only [fvl, List.mem_append] at h
    have hr := fsub_comp (σ := σ) (τ := τ) r (fun z hz => h z (.inr hz))
    rw [fsub_sign (σ := σ), fsub_sign (σ := τ), fsub_sign (σ := comp σ τ), hr]
    by_cases e : p.1 = 0
    · have h0 := h p.2 (.inl (by rw [if_pos e]; simp))
      obtain ⟨t, ht⟩ := Option.isSome_iff_exists.1 h0
      rw [tsub_var e ht, tsub_var e (comp_some ht)]
    · rw [tsub_sym e, tsub_sym (σ := comp σ τ) e, tsub_sym (σ := τ) e, fsub_comp k (fun z hz => h z (.inl (by rw [if_neg e]; exact hz)))]
theorem tsub_comp {σ τ : Int → Option (Int × Int × Fo)} {s v : Int} {k : Fo} (h : ∀ x ∈ fvs s v k, (σ x).isSome = true) : tsub τ (tsub σ s v k).1 (tsub σ s v k).2.1 (tsub σ s v k).2.2 = tsub (comp σ τ) s v k := by
  unfold fvs at h
  by_cases e : s = 0
  · rw [if_pos e] at h
    obtain ⟨t, ht⟩ := Option.isSome_iff_exists.1 (h v (by simp))
    rw [tsub_var e ht, tsub_var e (comp_some ht)]
  · rw [if_neg e] at h
    rw [tsub_sym e, tsub_sym (σ := comp σ τ) e, tsub_sym (σ := τ) e, fsub_comp k h]
/-- Not smaller. -/
theorem fsub_more {σ : Int → Option (Int × Int × Fo)} : ∀ k : Fo, fok k = true → fsz k ≤ fsz (fsub σ k)
  | .nil, _ => Nat.le_refl _
  | .node x y p k r, h => by
    simp only [fok, Bool.and_eq_true] at h
    have h1 := fsub_more (σ := σ) k h.1.2
    have h2 := fsub_more (σ := σ) r h.2
    simp only [fsub]
    by_cases e : p.1 = 0
    · have hk : k = .nil := kids_none (v := p.2) (by rw [← e]; exact h.1.1)
      subst hk
      rw [if_pos e]
      split <;> simp only [fsz] <;> omega
    · rw [if_neg e]; simp only [fsz]; omega
end Go.Proofs.Ytlaaihnokoeliab

/-! SHv: The contracts of slices.Sort and slices.Compact at this program. -/
namespace Go.Proofs
open Go.Shelf
def Try.lays189_ren : Go.Shelf.Ren := ⟨fun | 189 => 43 | 125 => 71 | 257 => 70 | 128 => 88 | 129 => 89 | 294 => 79 | 295 => 80 | 296 => 81 | 297 => 82 | 298 => 83 | 299 => 84 | 216 => 85 | 300 => 86 | 301 => 87 | 328 => 90 | 329 => 91 | 330 => 92 | 331 => 93 | 332 => 94 | 215 => 95 | 343 => 96 | n => n, fun | 28 => 38 | 3 => 3 | 46 => 107 | 0 => 0 | 51 => 126 | 53 => 128 | 4 => 4 | 183 => 118 | 182 => 117 | 131 => 123 | 5 => 5 | 9 => 9 | 218 => 129 | 222 => 94 | 228 => 135 | 229 => 136 | n => n, fun | n => n⟩
theorem Try.lays189 : Go.Proofs.Lays.n189 Try.prog Try.lays189_ren := {
  mixed := by kernel_rfl
  f125 := Try.func71.trans (congrArg some (by kernel_rfl))
  f128 := Try.func88.trans (congrArg some (by kernel_rfl))
  f129 := Try.func89.trans (congrArg some (by kernel_rfl))
  f189 := Try.func43.trans (congrArg some (by kernel_rfl))
  f215 := Try.func95.trans (congrArg some (by kernel_rfl))
  f216 := Try.func85.trans (congrArg some (by kernel_rfl))
  f257 := Try.func70.trans (congrArg some (by kernel_rfl))
  f294 := Try.func79.trans (congrArg some (by kernel_rfl))
  f295 := Try.func80.trans (congrArg some (by kernel_rfl))
  f296 := Try.func81.trans (congrArg some (by kernel_rfl))
  f297 := Try.func82.trans (congrArg some (by kernel_rfl))
  f298 := Try.func83.trans (congrArg some (by kernel_rfl))
  f299 := Try.func84.trans (congrArg some (by kernel_rfl))
  f300 := Try.func86.trans (congrArg some (by kernel_rfl))
  f301 := Try.func87.trans (congrArg some (by kernel_rfl))
  f328 := Try.func90.trans (congrArg some (by kernel_rfl))
  f329 := Try.func91.trans (congrArg some (by kernel_rfl))
  f330 := Try.func92.trans (congrArg some (by kernel_rfl))
  f331 := Try.func93.trans (congrArg some (by kernel_rfl))
  f332 := Try.func94.trans (congrArg some (by kernel_rfl))
  f343 := Try.func96.trans (congrArg some (by kernel_rfl))
  t0 := Try.underlying0
  a0 := Try.isAgg0
  z0 := Try.sizeOf0
  v0 := Try.zeroValue0
  t3 := Try.underlying3
  a3 := Try.isAgg3
  z3 := Try.sizeOf3
  v3 := Try.zeroValue3
  t4 := Try.underlying4
  a4 := Try.isAgg4
  z4 := Try.sizeOf4
  v4 := Try.zeroValue4
  t5 := Try.underlying5
  a5 := Try.isAgg5
  z5 := Try.sizeOf5
  v5 := Try.zeroValue5
  t9 := Try.underlying9
  a9 := Try.isAgg9
  z9 := Try.sizeOf9
  v9 := Try.zeroValue9
  t28 := Try.underlying38
  a28 := Try.isAgg38
  z28 := Try.sizeOf38
  v28 := Try.zeroValue38
  t46 := Try.underlying107
  a46 := Try.isAgg107
  z46 := Try.sizeOf107
  v46 := Try.zeroValue107
  t51 := Try.underlying126
  a51 := Try.isAgg126
  z51 := Try.sizeOf126
  v51 := Try.zeroValue126
  t53 := Try.underlying128
  a53 := Try.isAgg128
  z53 := Try.sizeOf128
  v53 := Try.zeroValue128
  t131 := Try.underlying123
  a131 := Try.isAgg123
  z131 := Try.sizeOf123
  v131 := Try.zeroValue123
  t182 := Try.underlying117
  a182 := Try.isAgg117
  z182 := Try.sizeOf117
  v182 := Try.zeroValue117
  t183 := Try.underlying118
  a183 := Try.isAgg118
  z183 := Try.sizeOf118
  v183 := Try.zeroValue118
  t218 := Try.underlying129
  a218 := Try.isAgg129
  z218 := Try.sizeOf129
  v218 := Try.zeroValue129
  t222 := Try.underlying94
  a222 := Try.isAgg94
  z222 := Try.sizeOf94
  v222 := Try.zeroValue94
  t228 := Try.underlying135
  a228 := Try.isAgg135
  z228 := Try.sizeOf135
  v228 := Try.zeroValue135
  t229 := Try.underlying136
  a229 := Try.isAgg136
  z229 := Try.sizeOf136
  v229 := Try.zeroValue136 }
def Try.laysNm220_ren : Go.Shelf.Ren := ⟨fun | 20 => 44 | n => n, fun | 22 => 38 | 3 => 3 | 4 => 4 | 0 => 0 | n => n, fun | n => n⟩
theorem Try.laysNm220 : Go.Proofs.Lays2.n20 Try.prog Try.laysNm220_ren := {
  mixed := by kernel_rfl
  f20 := Try.func44.trans (congrArg some (by kernel_rfl))
  t0 := Try.underlying0
  a0 := Try.isAgg0
  z0 := Try.sizeOf0
  v0 := Try.zeroValue0
  t3 := Try.underlying3
  a3 := Try.isAgg3
  z3 := Try.sizeOf3
  v3 := Try.zeroValue3
  t4 := Try.underlying4
  a4 := Try.isAgg4
  z4 := Try.sizeOf4
  v4 := Try.zeroValue4
  t22 := Try.underlying38
  a22 := Try.isAgg38
  z22 := Try.sizeOf38
  v22 := Try.zeroValue38
  i3 := by kernel_rfl }
end Go.Proofs

/-! V3: slices.Sort and slices.Compact on numbers of the call's own; impl.TermVars. -/
namespace Go.Proofs.Ytlaaihnokoeliab
open Go.RowKit Go.Deep Go.Sort

/-- Sorted. -/
def srt (xs : List Int) : List Int := xs.mergeSort fun x y => decide (x ≤ y)
theorem srt_len (xs : List Int) : (srt xs).length = xs.length := List.length_mergeSort _

theorem iown_some {w : World} {base : Nat} {xs : List Int} {A : Option Addr} {C : Nat} (h : IOwn w base xs A C) (hx : 0 < xs.length) :
    ∃ g cur, A = some ⟨g, 0, none⟩ ∧ base ≤ g ∧ g < w.heap.size ∧ xs.length ≤ C ∧ C ≤ maxLen ∧ cur.size = C * 1 ∧ w.heap[g]? = some (.cells cur 3 (0, 0)) ∧ Holds (Value.int .i64) w g 0 xs.toArray := by
  rcases h.2 with ⟨_, h0⟩ | ⟨g, cap, cur, hv, hb, hg, hn, hm, hs, ht⟩
  · omega
  · simp only [Value.slice.injEq] at hv
    obtain ⟨rfl, _, rfl⟩ := hv
    have hlt : g < w.heap.size := by
      rcases Nat.lt_or_ge g w.heap.size with h' | h'
      · exact h'
      · rw [Array.getElem?_eq_none h'] at hg; cases hg
    exact ⟨g, cur, rfl, hb, hlt, hn, hm, hs, hg, holds_of_blockI hg (by rw [Nat.mul_one] at ht; exact ht)⟩

theorem sort_any (base : Nat) (xs : List Int) (A : Option Addr) (C : Nat) (w : World) (h : IOwn w base xs A C) (hl : xs.length ≤ 2000) (hb : base ≤ w.heap.size) :
    Calls Try.prog 43 #[.slice A xs.length C] w fun e w' => e = .returned (.tuple #[]) ∧ w'.ownsRow base 3 1 (.slice A xs.length C) xs.length ((srt xs).map (Value.int .i64)) ∧ Below base w w' := by
  rcases Nat.eq_zero_or_pos xs.length with h0 | h0
  · have hx := List.eq_nil_of_length_eq_zero h0
    subst hx
    refine (Any.slices_Sort_int_none Try.lays189 A C w).mono ?_
    rintro e w' ⟨rfl, rfl⟩
    exact ⟨rfl, by simpa [srt, IOwn] using h, Below.refl _ _⟩
  · obtain ⟨g, cur, rfl, hbg, hgl, hc, hm, hs, hg, hH⟩ := iown_some h h0
    refine (Any.slices_Sort_int Try.lays189 g 0 C xs w hH hgl (by omega)).mono ?_
    rintro e w' ⟨rfl, n, os, rfl⟩
    exact ⟨rfl, ownsRow_sortedI (ss := xs) (ts := srt xs) (srt_len xs) hbg hg hc hm hs, (Below.refl _ _).grown (grownBy_sortedI _) hb (fun k hk => by simp at hk; omega)⟩

theorem compact_any (base : Nat) (zs : List Int) (A : Option Addr) (C : Nat) (w : World) (h : IOwn w base zs A C) (hl : zs.length ≤ 2000) (hb : base ≤ w.heap.size) :
    Calls Try.prog 44 #[.slice A zs.length C] w fun e w' => ∃ A' C', e = .returned (.slice A' (Lib.compact zs).length C') ∧ IOwn w' base (Lib.compact zs) A' C' ∧ Below base w w' := by
  rcases Nat.eq_zero_or_pos zs.length with h0 | h0
  · have hx := List.eq_nil_of_length_eq_zero h0
    subst hx
    refine (Any.slices_Compact_int_empty Try.laysNm220 A C w).mono ?_
    rintro e w' ⟨rfl, rfl⟩
    exact ⟨A, C, by simp [Lib.compact, Lib.compactUpTo], by simpa [Lib.compact, Lib.compactUpTo, IOwn] using h, Below.refl _ _⟩
  · obtain ⟨g, cur, rfl, hbg, hgl, hc, hm, hs, hg, hH⟩ := iown_some h h0
    refine (Any.slices_Compact_int Try.laysNm220 g 0 C zs w hH (by omega) hc).mono ?_
    rintro e w' ⟨rfl, q, rfl⟩
    have hle := Lib.compact_length_le zs
    have h1 := Lib.ownsRow_putRow (q := q) (ys := Lib.compact zs ++ List.replicate (zs.length - (Lib.compact zs).length) 0) (k := (Lib.compact zs).length) h (by simp; omega) hle
    refine ⟨_, _, rfl, ?_, Lib.below_putRow (Below.refl _ _) hbg⟩
    unfold IOwn
    rw [List.take_left' rfl] at h1
    exact h1

def tvR (s v : Int) (k : Fo) : List Int := if okW s v k 16 = true then among (fvs s v k) 12 else []
theorem among_len (xs : List Int) (n : Nat) : (among xs n).length ≤ n := by
  refine Nat.le_trans (List.length_filter_le _ _) ?_
  simp
theorem tvR_len (s v : Int) (k : Fo) : (tvR s v k).length ≤ 12 := by
  unfold tvR
  split
  · exact among_len _ _
  · simp
def TvPost (s v : Int) (k : Fo) (w : World) (e : Ending) (w' : World) : Prop :=
  ∃ A C xs, xs = tvR s v k ∧ e = .returned (.slice A (List.length xs) C) ∧ Below w.heap.size w w' ∧ IOwn w' w.heap.size xs A C

set_option maxRecDepth 100000 in
set_option maxHeartbeats 1000000 in
theorem iTermVars_any (s v : Int) (a : Option Addr) (c : Nat) (k : Fo) (w : World) (hl : Sl w 0 w.heap.size a k) :
    Calls Try.prog 17 #[.agg #[.int .i64 s, .int .i64 v, .slice a (flen k) c]] w (TvPost s v k w) := by
  have HL := Lib.hid hl
  clear hl
  have hb0 : Below w.heap.size w (w.alloc (.cells #[.int .i64 s, .int .i64 v, .slice a (flen k) c] 25)) := (Below.refl _ _).alloc (Nat.le_refl _) _
  have HB0 := Lib.hid hb0
  clear hb0
  go_enter Try.func17, Try.ntmps17
  go_wp2_with fail
  with_reducible refine (nodeOf_any s v a c k 16 _ ?_ (by omega) (by omega)).mono ?_
  · exact (HL.out.below HB0.out).mono (Nat.le_refl _) HB0.out.size
  rintro e w2 ⟨nv, rfl, hb, hyes⟩
  have hs2 := hb.size
  simp at hs2
  have HB2 := Lib.hid (HB0.out.trans (hb.mono HB0.out.size))
  clear hb
  cases hok : okW s v k 16 with
  | false =>
    have HR : Hid (tvR s v k = []) := by unfold Hid tvR; rw [hok]; rfl
    clear hok hyes
    go_wp2_with fail
    go_ret
    exact ⟨none, 0, [], HR.out.symm, rfl, HB2.out, World.ownsRow_nil _ _ _ _⟩
  | true =>
    have hsz := ((okW_iff _ _ _ _).1 hok).2.2
    have HN := Lib.hid ((hyes hok).mono (lo' := 0) (Nat.zero_le _) (Nat.le_refl _))
    have HR : Hid (tvR s v k = Lib.compact (srt (fvs s v k))) := by unfold Hid tvR srt; rw [hok, compact_among _ (fvs_in hok)]; rfl
    have HNIL : Hid (IOwn w2 w2.heap.size [] none 0) := World.ownsRow_nil _ _ _ _
    clear hok hyes
    obtain ⟨ty, vv, rfl⟩ : ∃ ty vv, nv = .iface ty vv := by
      rcases HN.out with ⟨_, _, rfl⟩ | ⟨_, _, _, rfl, _⟩
      · exact ⟨_, _, rfl⟩
      · exact ⟨_, _, rfl⟩
    have hfs := fvs_sz s v k
    have HCV : Hid (Calls Try.prog 42 #[.slice none 0 0, .iface ty vv] w2 (AvPost w2.heap.size [] s v k w2)) := addVars_any w2.heap.size (fsz k) s v k _ [] none 0 _ (Nat.le_refl _) HN.out HNIL.out (Nat.le_refl _) (by omega) (by simp; omega)
    go_wp2_with fail
    with_reducible refine HCV.out.mono ?_
    rintro e w3 ⟨ys, A3, C3, hys, rfl, hio3, hb3⟩
    rw [List.nil_append] at hys
    subst hys
    have hs3 := hb3.size
    have HIO3 := Lib.hid hio3
    have HB3 := Lib.hid (HB2.out.trans (hb3.mono (by omega)))
    clear hio3 hb3
    go_wp2_with fail
    with_reducible refine (sort_any w2.heap.size (fvs s v k) A3 C3 _ HIO3.out (by omega) (by omega)).mono ?_
    rintro e w4 ⟨rfl, hown4, hb4⟩
    have hs4 := hb4.size
    have HIO4 : Hid (IOwn w4 w2.heap.size (srt (fvs s v k)) A3 C3) := by unfold Hid IOwn; rw [srt_len]; exact hown4
    have HB4 := Lib.hid (HB3.out.trans (hb4.mono (by omega)))
    have HCALL := Lib.hid (compact_any w2.heap.size (srt (fvs s v k)) A3 C3 w4 HIO4.out (by rw [srt_len]; omega) (by omega))
    rw [srt_len] at HCALL
    clear hown4 hb4
    go_wp2_with fail
    with_reducible refine HCALL.out.mono ?_
    rintro e w5 ⟨A5, C5, rfl, hio5, hb5⟩
    have HIO5 := Lib.hid hio5
    have HB5 := Lib.hid (HB4.out.trans (hb5.mono (by omega)))
    clear hio5 hb5
    go_wp2_with fail
    go_ret
    exact ⟨A5, C5, _, HR.out.symm, rfl, HB5.out, HIO5.out.base (by omega)⟩
end Go.Proofs.Ytlaaihnokoeliab

/-! ML: What the laws of matching want of the answers. Plain lemmas. -/
namespace Go.Proofs.Ytlaaihnokoeliab
open Go.RowKit Go.Deep

/-- The pattern becomes the term. -/
theorem ma_sub {s v : Int} {k : Fo} {s' v' : Int} {k' : Fo} {bs : List Bd} (h : maR s v k s' v' k' = (bs, true)) (hz : Zf k) (hz' : Zf k') : sdR bs s v k = (s', v', k', true) ∧ tsub (sv bs) s v k = (s', v', k') := by
  rcases maR_cases h with ⟨h, _⟩ | ⟨_, h1, h2, h3⟩
  · cases h
  obtain ⟨o1, o2, _⟩ := (okW_iff _ _ _ _).1 h1
  obtain ⟨p1, p2, p3⟩ := (okW_iff _ _ _ _).1 h2
  obtain ⟨_, _, _, hs⟩ := tmt_sound h3 hz hz' o1 o2 p1 p2 BZ.nil
  exact ⟨sdR_of (maR_in h).2.2.2.2 h1 hs (by omega), hs⟩
theorem map_asc {bs : List Bd} (h : Asc bs) : (bs.map (·.1)).Pairwise (· < ·) := List.pairwise_map.2 h
theorem sv_some : ∀ {bs : List Bd} {x : Int}, (sv bs x).isSome = true ↔ x ∈ bs.map (·.1)
  | [], x => by simp [sv]
  | y :: r, x => by
    simp only [sv, List.map_cons, List.mem_cons]
    split
    · rename_i e; simp [e]
    · rename_i e
      rw [sv_some (bs := r)]
      exact ⟨fun h => .inr h, fun h => h.elim (fun h => absurd h.symm e) id⟩
/-- It binds the pattern's variables. -/
theorem ma_vars {s v : Int} {k : Fo} {s' v' : Int} {k' : Fo} {bs : List Bd} (h : maR s v k s' v' k' = (bs, true)) : bs.map (·.1) = tvR s v k := by
  have hin := maR_in h
  rcases maR_cases h with ⟨h, _⟩ | ⟨_, h1, h2, h3⟩
  · cases h
  unfold tvR
  rw [if_pos h1]
  refine strict_ext _ _ (map_asc hin.1) (among_strict _ _) fun x => ?_
  rw [← sv_some, tmt_dom h3 x, among_mem]
  constructor
  · rintro (h | h)
    · simp [sv] at h
    · have := fvs_in h1 x h; exact ⟨h, by omega, by omega⟩
  · exact fun h => .inr h.1
/-- A pattern of what is made of it. -/
theorem ma_made {σ : Int → Option (Int × Int × Fo)} {s v : Int} {k : Fo} {s' v' : Int} {k' : Fo} (h1 : okW s v k 16 = true) (h2 : okW s' v' k' 16 = true) (ht : tsub σ s v k = (s', v', k')) : ∃ bs, maR s v k s' v' k' = (bs, true) ∧ ∀ x ∈ bs, tsub σ 0 x.1 .nil = x.2 := by
  obtain ⟨o1, o2, _⟩ := (okW_iff _ _ _ _).1 h1
  obtain ⟨bs, hb, ha⟩ := tmt_made σ o1 o2 (Agrees.nil σ) ht
  have hm := maR_of h1 h2 hb
  exact ⟨bs, hm, fun x hx => ha x.1 x.2 (sv_mem (maR_in hm).1 hx)⟩
theorem ma_self {s v : Int} {k : Fo} (h1 : okW s v k 16 = true) : ∃ bs, maR s v k s v k = (bs, true) ∧ ∀ x ∈ bs, x = (x.1, 0, x.1, .nil) := by
  obtain ⟨bs, hb, ha⟩ := ma_made (σ := fun _ => none) h1 h1 (tsub_id fun _ _ => rfl)
  refine ⟨bs, hb, fun x hx => ?_⟩
  have := ha x hx
  rw [tsub0] at this
  obtain ⟨x1, x2⟩ := x
  dsimp only at this ⊢
  rw [← this]; rfl
theorem ma_through {s v : Int} {k : Fo} {s' v' : Int} {k' : Fo} {bs us : List Bd} {sx vx : Int} {kx : Fo} (h : maR s v k s' v' k' = (bs, true)) (hz : Zf k) (hz' : Zf k') (hd : sdR us s' v' k' = (sx, vx, kx, true)) : ∃ b2, maR s v k sx vx kx = (b2, true) := by
  have hs := (ma_sub h hz hz').2
  rcases maR_cases h with ⟨h, _⟩ | ⟨_, h1, h2, h3⟩
  · cases h
  rcases sdR_cases hd with ⟨h, _⟩ | ⟨_, _, _, ht, ho⟩
  · cases h
  have hc := tsub_comp (σ := sv bs) (τ := sv us) (s := s) (v := v) (k := k) fun x hx => (tmt_dom h3 x).2 (.inr hx)
  rw [hs] at hc
  dsimp only at hc
  rw [ht] at hc
  obtain ⟨b2, hb, _⟩ := ma_made h1 ho hc.symm
  exact ⟨b2, hb⟩
theorem ma_less {s v : Int} {k : Fo} {s' v' : Int} {k' : Fo} {bs : List Bd} (h : maR s v k s' v' k' = (bs, true)) (hz : Zf k) (hz' : Zf k') : fsz k ≤ fsz k' := by
  have hs := (ma_sub h hz hz').2
  rcases maR_cases h with ⟨h, _⟩ | ⟨_, h1, h2, h3⟩
  · cases h
  obtain ⟨o1, o2, _⟩ := (okW_iff _ _ _ _).1 h1
  unfold tsub at hs
  by_cases e : s = 0
  · subst e
    rw [kids_none o1]; simp [fsz]
  · rw [if_neg e] at hs
    simp only [Prod.mk.injEq] at hs
    rw [← hs.2.2]
    exact fsub_more k o2
/-- Parts. -/
theorem ma_parts {s v : Int} {k : Fo} {s' v' : Int} {k' : Fo} {bs : List Bd} {pl : List Int} (h : maR s v k s' v' k' = (bs, true)) (hz : Zf k) (hz' : Zf k') (hp : pl ∈ places k) :
    ∃ s1 v1 k1 s3 v3 k3 b2, atR s v k pl = (s1, v1, k1, true) ∧ atR s' v' k' pl = (s3, v3, k3, true) ∧ maR s1 v1 k1 s3 v3 k3 = (b2, true) := by
  obtain ⟨s1, v1, k1, s3, v3, k3, ha, hd, hb⟩ := sub_parts (ma_sub h hz hz').1 hp
  rcases sdR_cases hd with ⟨h, _⟩ | ⟨_, _, o1, ht, o2⟩
  · cases h
  obtain ⟨b2, hm, _⟩ := ma_made o1 o2 ht
  exact ⟨s1, v1, k1, s3, v3, k3, b2, ha, hb, hm⟩
/-- Sizes of what is bound. -/
theorem ma_small {s v : Int} {k : Fo} {s' v' : Int} {k' : Fo} {bs : List Bd} {t : Bool} (h : maR s v k s' v' k' = (bs, t)) : bs.length ≤ 16 ∧ ∀ x ∈ bs, fsz x.2.2.2 ≤ 1000000 := by
  have hi := maR_in h
  exact ⟨hi.2.2.1, fun x hx => by have := (hi.2.1 x.1 x.2 (sv_mem hi.1 hx)).2.2; omega⟩
end Go.Proofs.Ytlaaihnokoeliab
