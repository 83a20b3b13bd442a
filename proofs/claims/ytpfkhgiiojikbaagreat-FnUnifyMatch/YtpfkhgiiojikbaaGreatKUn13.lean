/- Several texts in one: WK0, P6a, P7a, PS2, ML0, TH0, TI. -/
import Derived.Test.YtpfkhgiiojikbaaGreatKUn12
import Derived.Test.YtpfkhgiiojikbaaGreatKUn7
import Derived.Test.YtpfkhgiiojikbaaGreatKUn11
import Derived.Test.YtpfkhgiiojikbaaGreatKUn4
import Derived.Test.YtpfkhgiiojikbaaGreatKUn10
import Derived.Test.YtpfkhgiiojikbaaGreatKUn8

/-! WK0: l71Some. -/
namespace Go.Proofs.YtpfkhgiiojikbaaGreat
open Go.RowKit Go.Deep

set_option maxRecDepth 100000 in
set_option maxHeartbeats 1000000 in
theorem l71Some_any (br p : Nat) (w : World) (hr : Rd w br p) (hp : p ≤ 10000000) :
    Calls Tryz.prog 17 #[.pointer (some ⟨br, 0, none⟩)] w (DrawnPost br p 100 31000 w) := by
  have hlt := hr.lt
  have hr' := hr.alloc (.cells #[.int .i64 0, .int .i64 0, .slice none 0 0] 25)
  have HA0 := Lib.hid (Adv.start hr' (Below.refl _ _))
  have HR0 := Lib.hid hr'
  clear hr hr'
  go_enter Tryz.func17, Tryz.ntmps17
  go_wp2_with fail
  with_reducible refine (pick_any 2 br p _ HR0.out (by omega) (by omega) (by omega)).mono ?_
  rintro e w1 ⟨x, rfl, hx, hb1⟩
  have ha1 := HA0.out.trans hb1
  have hx2 : x < 2 := by omega
  have HR1 := Lib.hid (Adv.rd hb1 HR0.out)
  have HA1 := Lib.hid ha1
  clear hb1 ha1 hx
  have hs1 := HA1.out.size
  simp at hs1
  have hpb : Hid (p + 1 + pkN 4 ≤ 100000000) := by
    have h93 : pkN 4 = 93 := by decide
    unfold Hid
    omega
  go_wp2_with fail
  with_reducible refine (l71Term_any 4 (3 + x) 3 br (p + 1) _ (by omega) (by omega) (by omega) (by omega) (by omega) HR1.out hpb.out).mono ?_
  rintro e w2 ⟨s, v, a2, c2, k, p2, rfl, hp1, hp2, hS2, ha2, hl2⟩
  have hp2' : p2 ≤ p + 1 + 93 := by simpa [pkN] using hp2
  have hS2' : 1 + fsz k ≤ 31 := by simpa [szN] using hS2
  have HR2 := Lib.hid (ha2.rd HR1.out)
  have HA2 := Lib.hid (HA1.out.trans ha2)
  have hs2 := ha2.size
  have HL2 := Lib.hid (hl2.mono (lo' := w.heap.size + 1) (by omega) (Nat.le_refl _))
  clear ha2 hl2 hp2 hS2
  go_wp2_with fail
  with_reducible refine (pick_any 14 br p2 _ (HR2.out.alloc _) (by omega) (by omega) (by omega)).mono ?_
  rintro e w3 ⟨y, rfl, hy, hb3⟩
  have ha3 : Adv (w2.alloc (.cells #[.int .i64 s, .int .i64 v, .slice a2 (flen k) c2] 25)) br (p2 + 1) w3 := hb3
  have hs3 := ha3.size
  simp at hs3
  have hlt2 : br < w2.heap.size := HR2.out.lt
  have HA3 := Lib.hid ((HA2.out.alloc (.cells #[.int .i64 s, .int .i64 v, .slice a2 (flen k) c2] 25)).trans ha3)
  have HR3 := Lib.hid (ha3.rd (HR2.out.alloc _))
  have HL3 := Lib.hid ((HL2.out.low ((Below.refl _ _).alloc (Nat.le_refl _) _)).adv ha3 (by omega))
  have hc0 := ha3.cell (q := ⟨w2.heap.size, 0, none⟩) (v := .int .i64 s) (by simp) (by simp; omega)
  have hc1 := ha3.cell (q := ⟨w2.heap.size, 1, none⟩) (v := .int .i64 v) (by simp) (by simp; omega)
  have hc2 := ha3.cell (q := ⟨w2.heap.size, 2, none⟩) (v := .slice a2 (flen k) c2) (by simp) (by simp; omega)
  clear ha3 hb3 hy
  by_cases hy0 : y = 0
  · subst hy0
    go_wp2_with fail
    with_reducible refine (l71Bad_any s v a2 c2 k br (p2 + 1) 31 _ (HL3.out.mono (Nat.zero_le _) (Nat.le_refl _)) HR3.out (by omega) (by omega) (by omega)).mono ?_
    rintro e w4 ⟨s4, v4, a4, c4, k4, p4, rfl, hp3, hp4, hS4, ha4, hl4⟩
    have ha5 := HA3.out.trans ha4
    obtain ⟨hr0, hr1, hr2, hf0, hf1, hf2⟩ := res_cells ha5 hlt
    have HA5 := Lib.hid ha5
    have HL4 := Lib.hid (hl4.mono (lo' := w.heap.size + 1) (by omega) (Nat.le_refl _))
    clear ha4 hl4 ha5 hc0 hc1 hc2
    go_wp2_with fail
    refine bodyPost_ret (v := .agg #[.int .i64 s4, .int .i64 v4, .slice a4 (flen k4) c4]) ?_ rfl (drawn_end HA5.out hlt (by omega) (by omega) (by omega) HL4.out)
    simp [results, Tryz.results17, go_sem, hr0, hr1, hr2]
  · have y0 : ((y : Int) == 0) = false := by simpa using hy0
    obtain ⟨hr0, hr1, hr2, hf0, hf1, hf2⟩ := res_cells HA3.out hlt
    go_wp2_with fail
    refine bodyPost_ret (v := .agg #[.int .i64 s, .int .i64 v, .slice a2 (flen k) c2]) ?_ rfl (drawn_end HA3.out hlt (by omega) (by omega) (by omega) HL3.out)
    simp [results, Tryz.results17, go_sem, hr0, hr1, hr2]
end Go.Proofs.YtpfkhgiiojikbaaGreat

/-! P6a: - impl.TermPlaces and spec.TermPlaces: of a term the places, of any other value none. -/
namespace Go.Proofs.YtpfkhgiiojikbaaGreat
open Go.RowKit Go.Deep

end Go.Proofs.YtpfkhgiiojikbaaGreat

/-! P7a: Each place is there, none twice: plain. -/
namespace Go.Proofs.YtpfkhgiiojikbaaGreat
open Go.RowKit Go.Deep

mutual
theorem fpl_at : ∀ (r : Fo) (s v : Int) (k : Fo) (i : Nat) (p : List Int), fdrop i k = r → p ∈ fpl r i → ∃ x, fat s v k p = some x
  | .nil, _, _, _, _, _, _, hp => by simp [fpl] at hp
  | .node x y (s', v') kk r, s, v, k, i, p, hd, hp => by
    simp only [fpl, List.mem_append, List.mem_map] at hp
    rcases hp with ⟨q, hq, rfl⟩ | hp
    · have hi : i < flen k := by
        by_cases h : i < flen k
        · exact h
        · rw [fdrop_all (by omega)] at hd; cases hd
      obtain ⟨z, hz⟩ := places_at kk s' v' q hq
      refine ⟨z, ?_⟩
      simp only [fat]
      rw [if_pos (by omega)]
      simp only [Int.toNat_natCast, hd]
      exact hz
    · have hd' : fdrop (i + 1) k = r := by
        have hi : i < flen k := by
          by_cases h : i < flen k
          · exact h
          · rw [fdrop_all (by omega)] at hd; cases hd
        obtain ⟨x', y', s2, v2, kk2, e⟩ := fdrop_succ i k hi
        rw [hd] at e
        simp only [BT.node.injEq] at e
        exact e.2.2.2.2.symm
      exact fpl_at r s v k (i + 1) p hd' hp
  termination_by r => (SizeOf.sizeOf r, 0)
theorem places_at : ∀ (k : Fo) (s v : Int) (p : List Int), p ∈ [] :: fpl k 0 → ∃ x, fat s v k p = some x
  | k, s, v, p, hp => by
    rcases List.mem_cons.1 hp with rfl | hp
    · exact ⟨_, rfl⟩
    · exact fpl_at k s v k 0 p rfl hp
  termination_by k => (SizeOf.sizeOf k, 1)
end

theorem fpl_head : ∀ (k : Fo) (i : Nat) (p : List Int), p ∈ fpl k i → ∃ (j : Nat) (q : List Int), p = (j : Int) :: q ∧ i ≤ j
  | .nil, _, _, hp => by simp [fpl] at hp
  | .node _ _ _ kk r, i, p, hp => by
    simp only [fpl, List.mem_append, List.mem_map] at hp
    rcases hp with ⟨q, _, rfl⟩ | hp
    · exact ⟨i, q, rfl, Nat.le_refl _⟩
    · obtain ⟨j, q, e, h⟩ := fpl_head r (i + 1) p hp
      exact ⟨j, q, e, by omega⟩
theorem nil_fpl {k : Fo} {i : Nat} {b : List Int} (hb : b ∈ fpl k i) : [] ≠ b := by
  obtain ⟨j, q, e, _⟩ := fpl_head k i b hb
  intro e'
  rw [e] at e'
  cases e'
theorem fpl_apart : ∀ (k : Fo) (i : Nat), (fpl k i).Pairwise (· ≠ ·)
  | .nil, _ => List.Pairwise.nil
  | .node _ _ _ kk r, i => by
    simp only [fpl]
    rw [List.pairwise_append]
    refine ⟨?_, fpl_apart r (i + 1), fun a ha b hb => ?_⟩
    · rw [List.pairwise_map]
      have h : ([] :: fpl kk 0).Pairwise (· ≠ ·) := List.pairwise_cons.2 ⟨fun _ hb => nil_fpl hb, fpl_apart kk 0⟩
      exact h.imp fun hne e => hne (List.cons.inj e).2
    · obtain ⟨q, _, rfl⟩ := List.mem_map.1 ha
      obtain ⟨j, q', rfl, hj⟩ := fpl_head r (i + 1) b hb
      intro e
      have := (List.cons.inj e).1
      omega
theorem places_apart (k : Fo) : (places k).Pairwise (· ≠ ·) :=
  List.pairwise_cons.2 ⟨fun _ hb => nil_fpl hb, fpl_apart k 0⟩
theorem places_unlike {k : Fo} {i j : Nat} {p q : List Int} (hi : (places k)[i]? = some p) (hj : (places k)[j]? = some q) (hij : i < j) : p ≠ q := by
  obtain ⟨h1, rfl⟩ := List.getElem?_eq_some_iff.1 hi
  obtain ⟨h2, rfl⟩ := List.getElem?_eq_some_iff.1 hj
  exact List.pairwise_iff_getElem.1 (places_apart k) i j h1 h2 hij
end Go.Proofs.YtpfkhgiiojikbaaGreat

/-! PS2: What stands at the places of a term with something put in; sums over places. Plain lemmas. -/
namespace Go.Proofs.YtpfkhgiiojikbaaGreat
open Go.RowKit Go.Deep

theorem atR_of {s v : Int} {k : Fo} {p : List Int} {s' v' : Int} {k' : Fo} (h : okW s v k 16 = true) (hf : fat s v k p = some (s', v', k')) : atR s v k p = (s', v', k', true) ∧ okW s' v' k' 16 = true := by
  have h1 := (okW_iff _ _ _ _).1 h
  have h2 := fat_ok p s v k h1.1 h1.2.1 hf
  refine ⟨by unfold atR; rw [h, hf]; rfl, (okW_iff _ _ _ _).2 ⟨h2.1, h2.2.1, by omega⟩⟩
theorem sub_parts {bs : List Bd} {s v : Int} {k : Fo} {sx vx : Int} {kx : Fo} {pl : List Int} (hd : sdR bs s v k = (sx, vx, kx, true)) (hp : pl ∈ places k) :
    ∃ s1 v1 k1 s3 v3 k3, atR s v k pl = (s1, v1, k1, true) ∧ sdR bs s1 v1 k1 = (s3, v3, k3, true) ∧ atR sx vx kx pl = (s3, v3, k3, true) := by
  rcases sdR_cases hd with ⟨h, _⟩ | ⟨_, hsok, hok, ht, hokx⟩
  · cases h
  obtain ⟨⟨s1, v1, k1⟩, hf⟩ := places_at k s v pl hp
  have h1 := (okW_iff _ _ _ _).1 hok
  have hF := fat_sub (sv bs) pl s v k h1.1 h1.2.1 hf
  rw [ht] at hF
  dsimp only at hF
  generalize htt : tsub (sv bs) s1 v1 k1 = tt at hF
  obtain ⟨s3, v3, k3⟩ := tt
  have hx := atR_of hokx hF
  refine ⟨s1, v1, k1, s3, v3, k3, (atR_of hok hf).1, sdR_of hsok (atR_of hok hf).2 htt ?_, hx.1⟩
  have := ((okW_iff _ _ _ _).1 hx.2).2.2
  omega
theorem atR_fat {s v : Int} {k : Fo} {p : List Int} {s' v' : Int} {k' : Fo} (h : atR s v k p = (s', v', k', true)) : okW s v k 16 = true ∧ fat s v k p = some (s', v', k') := by
  unfold atR at h
  cases ho : okW s v k 16 with
  | false => rw [ho] at h; simp at h
  | true =>
    rw [ho] at h
    cases hf : fat s v k p with
    | none => rw [hf] at h; simp at h
    | some y => rw [hf] at h; simp at h; obtain ⟨h1, h2, h3⟩ := h; exact ⟨rfl, by obtain ⟨a, b, c⟩ := y; simp_all⟩
def psum (σ : Int → Option (Int × Int × Fo)) (s v : Int) (k : Fo) (j : Nat) : Nat := (((places k).take j).map fun p => pcnt σ (fat s v k p)).sum
theorem psum_zero (σ : Int → Option (Int × Int × Fo)) (s v : Int) (k : Fo) : psum σ s v k 0 = 0 := by simp [psum]
theorem psum_step {σ : Int → Option (Int × Int × Fo)} {s v : Int} {k : Fo} {j : Nat} {pl : List Int} {s1 v1 : Int} {k1 : Fo} (hp : (places k)[j]? = some pl) (hf : fat s v k pl = some (s1, v1, k1)) : psum σ s v k (j + 1) = psum σ s v k j + pcnt σ (some (s1, v1, k1)) := by
  unfold psum
  rw [List.take_add_one, hp]
  simp [hf]
theorem psum_all {bs : List Bd} {s v : Int} {k : Fo} {sx vx : Int} {kx : Fo} {j : Nat} (hd : sdR bs s v k = (sx, vx, kx, true)) (hj : (places k).length ≤ j) : psum (sv bs) s v k j = 1 + fsz kx := by
  rcases sdR_cases hd with ⟨h, _⟩ | ⟨_, hsok, hok, ht, hokx⟩
  · cases h
  have h1 := (okW_iff _ _ _ _).1 hok
  unfold psum
  rw [List.take_of_length_le hj, places_sum (sv bs) h1.1 h1.2.1, ht]
/-- One step of the sum: what stands at a place, what comes of it. -/
theorem psum_at {bs : List Bd} {s v : Int} {k : Fo} {sx vx : Int} {kx : Fo} {j : Nat} {pl : List Int} (hd : sdR bs s v k = (sx, vx, kx, true)) (hp : (places k)[j]? = some pl) :
    ∃ s1 v1 k1 s3 v3 k3, atR s v k pl = (s1, v1, k1, true) ∧ sdR bs s1 v1 k1 = (s3, v3, k3, true) ∧ okW s3 v3 k3 16 = true ∧ (s1 = 0 → psum (sv bs) s v k (j + 1) = psum (sv bs) s v k j + 1 + fsz k3) ∧ (s1 ≠ 0 → psum (sv bs) s v k (j + 1) = psum (sv bs) s v k j + 1) := by
  obtain ⟨s1, v1, k1, s3, v3, k3, h1, h2, h3⟩ := sub_parts hd (List.mem_of_getElem? hp)
  have hf := (atR_fat h1).2
  have hs := psum_step (σ := sv bs) hp hf
  rcases sdR_cases h2 with ⟨h, _⟩ | ⟨_, hsok, hok, ht, hokx⟩
  · cases h
  refine ⟨s1, v1, k1, s3, v3, k3, h1, h2, hokx, fun e => ?_, fun e => ?_⟩
  · subst e
    obtain rfl := kids_none ((okW_iff _ _ _ _).1 hok).1
    rw [hs, pcnt, if_pos rfl, ht]
    dsimp only
    omega
  · rw [hs, pcnt, if_neg e]
end Go.Proofs.YtpfkhgiiojikbaaGreat

/-! ML0: What is put in one behind the other, and not smaller. Plain lemmas. -/
namespace Go.Proofs.YtpfkhgiiojikbaaGreat
open Go.RowKit Go.Deep

/-- One behind the other. -/
def comp (σ τ : Int → Option (Int × Int × Fo)) (x : Int) : Option (Int × Int × Fo) := (σ x).map fun t => tsub τ t.1 t.2.1 t.2.2
theorem comp_some {σ τ : Int → Option (Int × Int × Fo)} {x : Int} {t : Int × Int × Fo} (h : σ x = some t) : comp σ τ x = some (tsub τ t.1 t.2.1 t.2.2) := by unfold comp; rw [h]; rfl
theorem fsub_zero {σ : Int → Option (Int × Int × Fo)} {x y : Nat} {p : Int × Int} {k r : Fo} (e : p.1 = 0) : fsub σ (.node x y p k r) = .node x y ((tsub σ p.1 p.2 k).1, (tsub σ p.1 p.2 k).2.1) (tsub σ p.1 p.2 k).2.2 (fsub σ r) := by
  simp only [fsub, tsub, if_pos e]
  cases σ p.2 with
  | none => rfl
  | some t => rfl
theorem fsub_sign {σ : Int → Option (Int × Int × Fo)} {x y : Nat} {p : Int × Int} {k r : Fo} : fsub σ (.node x y p k r) = .node x y ((tsub σ p.1 p.2 k).1, (tsub σ p.1 p.2 k).2.1) (tsub σ p.1 p.2 k).2.2 (fsub σ r) := by
  by_cases e : p.1 = 0
  · exact fsub_zero e
  · simp only [fsub, tsub, if_neg e]
theorem tsub_var {σ : Int → Option (Int × Int × Fo)} {s v : Int} {k : Fo} {t : Int × Int × Fo} (e : s = 0) (h : σ v = some t) : tsub σ s v k = t := by unfold tsub; rw [if_pos e, h]; rfl
theorem tsub_sym {σ : Int → Option (Int × Int × Fo)} {s v : Int} {k : Fo} (e : s ≠ 0) : tsub σ s v k = (s, v, fsub σ k) := by unfold tsub; rw [if_neg e]
theorem fsub_comp {σ τ : Int → Option (Int × Int × Fo)} : ∀ k : Fo, (∀ x ∈ fvl k, (σ x).isSome = true) → fsub τ (fsub σ k) = fsub (comp σ τ) k
  | .nil, _ => rfl
  | .node x y p k r, h => by
    simp only [fvl, List.mem_append] at h
    have hr := fsub_comp (σ := σ) (τ := τ) r (fun z hz => h z (.inr hz))
    rw [fsub_sign (σ := σ), fsub_sign (σ := τ), fsub_sign (σ := comp σ τ), hr]
    by_cases e : p.1 = 0
    · have h0 := h p.2 (.inl (by rw [if_pos e]; simp))
      obtain ⟨t, ht⟩ := Option.isSome_iff_exists.1 h0
      rw [tsub_var e ht, tsub_var e (comp_some ht)]
    · rw [tsub_sym e, tsub_sym (σ := comp σ τ) e, tsub_sym (σ := τ) e, fsub_comp k (fun z hz => h z (.inl (by rw [if_neg e]; exact hz)))]
theorem tsub_comp {σ τ : Int → Option (Int × Int × Fo)} {s v : Int} {k : Fo} (h : ∀ x ∈ fvs s v k, (σ x).isSome = true) : tsub τ (tsub σ s v k).1 (tsub σ s v k).2.1 (tsub σ s v k).2.2 = tsub (comp σ τ) s v k := by
  unfold fvs at h
  by_cases e : s = 0
  · rw [if_pos e] at h
    obtain ⟨t, ht⟩ := Option.isSome_iff_exists.1 (h v (by simp))
    rw [tsub_var e ht, tsub_var e (comp_some ht)]
  · rw [if_neg e] at h
    rw [tsub_sym e, tsub_sym (σ := comp σ τ) e, tsub_sym (σ := τ) e, fsub_comp k h]
/-- Not smaller. -/
theorem fsub_more {σ : Int → Option (Int × Int × Fo)} : ∀ k : Fo, fok k = true → fsz k ≤ fsz (fsub σ k)
  | .nil, _ => Nat.le_refl _
  | .node x y p k r, h => by
    simp only [fok, Bool.and_eq_true] at h
    have h1 := fsub_more (σ := σ) k h.1.2
    have h2 := fsub_more (σ := σ) r h.2
    simp only [fsub]
    by_cases e : p.1 = 0
    · have hk : k = .nil := kids_none (v := p.2) (by rw [← e]; exact h.1.1)
      subst hk
      rw [if_pos e]
      split <;> simp only [fsz] <;> omega
    · rw [if_neg e]; simp only [fsz]; omega
end Go.Proofs.YtpfkhgiiojikbaaGreat

/-! TH0: What is put in one behind the other: plain. Definitions and plain lemmas. -/
namespace Go.Proofs.YtpfkhgiiojikbaaGreat
open Go.RowKit Go.Deep

/-- The first ones, with the others put in. -/
def th1 (us : List Bd) : List Bd → List Bd → List Bd
  | [], out => out
  | x :: r, out => th1 us r (ladd out (x.1, tsub (sv us) x.2.1 x.2.2.1 x.2.2.2))
/-- Those of the others of which the first say nothing. -/
def th2 (bs : List Bd) : List Bd → List Bd → List Bd
  | [], out => out
  | x :: r, out => th2 bs r (if (sv bs x.1).isSome = true then out else ladd out x)
def thL (bs us : List Bd) : List Bd := th2 bs us (th1 us bs [])
theorem th1_len (us : List Bd) : ∀ (bs out : List Bd), (th1 us bs out).length = out.length + bs.length
  | [], _ => rfl
  | x :: r, out => by simp only [th1, th1_len us r, ladd_len, List.length_cons]; omega
theorem th2_len (bs : List Bd) : ∀ (us out : List Bd), (th2 bs us out).length ≤ out.length + us.length
  | [], _ => Nat.le_refl _
  | x :: r, out => by
    have h := th2_len bs r (if (sv bs x.1).isSome = true then out else ladd out x)
    simp only [th2, List.length_cons]
    split at h
    · rename_i e; rw [if_pos e]; omega
    · rename_i e; rw [if_neg e]; rw [ladd_len] at h; omega
theorem thL_len (bs us : List Bd) : (thL bs us).length ≤ bs.length + us.length := by
  have := th2_len bs us (th1 us bs [])
  rw [th1_len] at this
  simpa [thL] using this

/-- What a variable stands for then. -/
def thS (σ τ : Int → Option (Int × Int × Fo)) (x : Int) : Option (Int × Int × Fo) :=
  match σ x with
  | some t => some (tsub τ t.1 t.2.1 t.2.2)
  | none => τ x
theorem thS_some {σ τ : Int → Option (Int × Int × Fo)} {x : Int} {t : Int × Int × Fo} (h : σ x = some t) : thS σ τ x = some (tsub τ t.1 t.2.1 t.2.2) := by unfold thS; rw [h]
theorem thS_none {σ τ : Int → Option (Int × Int × Fo)} {x : Int} (h : σ x = none) : thS σ τ x = τ x := by unfold thS; rw [h]
theorem tsub_none {σ : Int → Option (Int × Int × Fo)} {s v : Int} {k : Fo} (e : s = 0) (h : σ v = none) : tsub σ s v k = (s, v, k) := by unfold tsub; rw [if_pos e, h]; rfl
theorem tsub_thV {σ τ : Int → Option (Int × Int × Fo)} {s v : Int} {k : Fo} (e : s = 0) : tsub τ (tsub σ s v k).1 (tsub σ s v k).2.1 (tsub σ s v k).2.2 = tsub (thS σ τ) s v k := by
  cases h : σ v with
  | some t => rw [tsub_var e h, tsub_var e (thS_some h)]
  | none =>
    rw [tsub_none e h]
    unfold tsub
    rw [if_pos e, if_pos e, thS_none h]
theorem fsub_th {σ τ : Int → Option (Int × Int × Fo)} : ∀ k : Fo, fsub τ (fsub σ k) = fsub (thS σ τ) k
  | .nil => rfl
  | .node x y p k r => by
    rw [fsub_sign (σ := σ), fsub_sign (σ := τ), fsub_sign (σ := thS σ τ), fsub_th r]
    by_cases e : p.1 = 0
    · rw [tsub_thV e]
    · rw [tsub_sym e, tsub_sym (σ := thS σ τ) e, tsub_sym (σ := τ) e, fsub_th k]
theorem tsub_th {σ τ : Int → Option (Int × Int × Fo)} (s v : Int) (k : Fo) : tsub τ (tsub σ s v k).1 (tsub σ s v k).2.1 (tsub σ s v k).2.2 = tsub (thS σ τ) s v k := by
  by_cases e : s = 0
  · exact tsub_thV e
  · rw [tsub_sym e, tsub_sym (σ := thS σ τ) e, tsub_sym (σ := τ) e, fsub_th k]

theorem sv_none_of : ∀ {bs : List Bd} {x : Int}, (∀ y ∈ bs, y.1 ≠ x) → sv bs x = none
  | [], _, _ => rfl
  | y :: r, x, h => by
    simp only [sv]
    rw [if_neg (h y (List.mem_cons_self ..))]
    exact sv_none_of fun z hz => h z (List.mem_cons_of_mem _ hz)
theorem sv_lt {bs : List Bd} {y : Bd} (ha : Asc (y :: bs)) : sv bs y.1 = none := sv_none_of fun z hz e => by
  have := (List.pairwise_cons.1 ha).1 z hz; omega
theorem th1_sv (us : List Bd) : ∀ (bs out : List Bd), Asc bs → (∀ y ∈ bs, sv out y.1 = none) → ∀ x, sv (th1 us bs out) x = match sv bs x with
    | some t => some (tsub (sv us) t.1 t.2.1 t.2.2)
    | none => sv out x
  | [], _, _, _, _ => rfl
  | y :: r, out, ha, hn, x => by
    have h0 := hn y (List.mem_cons_self ..)
    have hr := (List.pairwise_cons.1 ha).1
    simp only [th1]
    rw [th1_sv us r _ (List.pairwise_cons.1 ha).2 (fun z hz => by
      rw [sv_ladd (b := (y.1, tsub (sv us) y.2.1 y.2.2.1 y.2.2.2)) h0, if_neg (by have := hr z hz; dsimp only; omega)]
      exact hn z (List.mem_cons_of_mem _ hz)) x]
    rw [sv_ladd (b := (y.1, tsub (sv us) y.2.1 y.2.2.1 y.2.2.2)) h0]
    simp only [sv]
    by_cases e : y.1 = x
    · subst e
      rw [sv_lt ha]
      simp
    · rw [if_neg e]
      simp only [if_neg e]
theorem th2_sv (bs : List Bd) : ∀ (us out : List Bd), Asc us → (∀ y ∈ us, sv bs y.1 = none → sv out y.1 = none) → ∀ x, sv (th2 bs us out) x = match sv bs x with
    | some _ => sv out x
    | none => match sv us x with
      | some t => some t
      | none => sv out x
  | [], out, _, _, x => by simp only [th2, sv]; cases sv bs x <;> rfl
  | y :: r, out, ha, hn, x => by
    have hr := (List.pairwise_cons.1 ha).1
    simp only [th2]
    cases hb : sv bs y.1 with
    | some t =>
      rw [if_pos (show (some t).isSome = true from rfl), th2_sv bs r out (List.pairwise_cons.1 ha).2 (fun z hz => hn z (List.mem_cons_of_mem _ hz)) x]
      cases hx : sv bs x with
      | some _ => rfl
      | none =>
        dsimp only
        simp only [sv]
        rw [if_neg (fun e => by rw [e, hx] at hb; cases hb)]
    | none =>
      have h0 := hn y (List.mem_cons_self ..) hb
      rw [if_neg (by simp), th2_sv bs r (ladd out y) (List.pairwise_cons.1 ha).2 (fun z hz hz2 => by
        rw [sv_ladd h0, if_neg (by have := hr z hz; omega)]
        exact hn z (List.mem_cons_of_mem _ hz) hz2) x]
      rw [sv_ladd h0]
      simp only [sv]
      by_cases e : y.1 = x
      · subst e
        rw [hb, sv_lt ha]
        simp
      · simp only [if_neg e]
theorem th1_asc (us : List Bd) : ∀ (bs out : List Bd), Asc bs → Asc out → (∀ y ∈ bs, sv out y.1 = none) → Asc (th1 us bs out)
  | [], _, _, h, _ => h
  | y :: r, out, ha, ho, hn => by
    have h0 := hn y (List.mem_cons_self ..)
    have hr := (List.pairwise_cons.1 ha).1
    simp only [th1]
    refine th1_asc us r _ (List.pairwise_cons.1 ha).2 (asc_ladd ho h0) fun z hz => ?_
    rw [sv_ladd (b := (y.1, tsub (sv us) y.2.1 y.2.2.1 y.2.2.2)) h0, if_neg (by have := hr z hz; dsimp only; omega)]
    exact hn z (List.mem_cons_of_mem _ hz)
theorem th2_asc (bs : List Bd) : ∀ (us out : List Bd), Asc us → Asc out → (∀ y ∈ us, sv bs y.1 = none → sv out y.1 = none) → Asc (th2 bs us out)
  | [], _, _, h, _ => h
  | y :: r, out, ha, ho, hn => by
    have hr := (List.pairwise_cons.1 ha).1
    simp only [th2]
    cases hb : sv bs y.1 with
    | some t =>
      rw [if_pos (show (some t).isSome = true from rfl)]
      exact th2_asc bs r out (List.pairwise_cons.1 ha).2 ho fun z hz => hn z (List.mem_cons_of_mem _ hz)
    | none =>
      have h0 := hn y (List.mem_cons_self ..) hb
      rw [if_neg (by simp)]
      refine th2_asc bs r _ (List.pairwise_cons.1 ha).2 (asc_ladd ho h0) fun z hz hz2 => ?_
      rw [sv_ladd h0, if_neg (by have := hr z hz; omega)]
      exact hn z (List.mem_cons_of_mem _ hz) hz2
theorem th12_none (us : List Bd) {bs : List Bd} (ha : Asc bs) : ∀ x, sv bs x = none → sv (th1 us bs []) x = none := fun x hx => by
  rw [th1_sv us bs [] ha (fun _ _ => rfl) x, hx]; rfl
theorem thL_sv {bs us : List Bd} (ha : Asc bs) (hu : Asc us) (x : Int) : sv (thL bs us) x = thS (sv bs) (sv us) x := by
  unfold thL
  rw [th2_sv bs us _ hu (fun y _ hy => th12_none us ha y.1 hy) x, th1_sv us bs [] ha (fun _ _ => rfl) x]
  unfold thS
  cases sv bs x with
  | some t => rfl
  | none => dsimp only; cases sv us x <;> rfl
theorem thL_asc {bs us : List Bd} (ha : Asc bs) (hu : Asc us) : Asc (thL bs us) :=
  th2_asc bs us _ hu (th1_asc us bs [] ha List.Pairwise.nil (fun _ _ => rfl)) fun y _ hy => th12_none us ha y.1 hy

/-- Ascending lists of which variables stand for the same are the same. -/
theorem asc_ext : ∀ {l m : List Bd}, Asc l → Asc m → (∀ x, sv l x = sv m x) → l = m
  | [], [], _, _, _ => rfl
  | [], y :: r, _, _, h => by have := h y.1; simp [sv] at this
  | x :: r, [], _, _, h => by have := h x.1; simp [sv] at this
  | x :: r, y :: q, ha, hb, h => by
    have h1 := (List.pairwise_cons.1 ha).1
    have h2 := (List.pairwise_cons.1 hb).1
    have e : x.1 = y.1 := by
      rcases Int.lt_trichotomy x.1 y.1 with hl | he | hl
      · have := h x.1
        simp only [sv, if_true] at this
        rw [if_neg (by omega), sv_none_of (fun z hz e => by have := h2 z hz; omega)] at this
        cases this
      · exact he
      · have := h y.1
        simp only [sv, if_true] at this
        rw [if_neg (by omega), sv_none_of (fun z hz e => by have := h1 z hz; omega)] at this
        cases this
    have e2 : x.2 = y.2 := by have := h x.1; simp only [sv, if_true, if_pos e.symm] at this; exact Option.some.inj this
    have e3 : x = y := Prod.ext e e2
    subst e3
    congr 1
    refine asc_ext (List.pairwise_cons.1 ha).2 (List.pairwise_cons.1 hb).2 fun z => ?_
    have hz := h z
    simp only [sv] at hz
    by_cases ez : x.1 = z
    · subst ez; rw [sv_lt ha, sv_lt hb]
    · rw [if_neg ez, if_neg ez] at hz; exact hz
theorem asc_len : ∀ (bs : List Bd) (last : Int), last < 12 → Asc bs → (∀ x ∈ bs, last < x.1 ∧ x.1 < 12) → last + bs.length < 12
  | [], _, h, _, _ => by simpa using h
  | x :: r, last, h, ha, hr => by
    have h1 := hr x (List.mem_cons_self ..)
    have := asc_len r x.1 h1.2 (List.pairwise_cons.1 ha).2 fun z hz => ⟨(List.pairwise_cons.1 ha).1 z hz, (hr z (List.mem_cons_of_mem _ hz)).2⟩
    rw [List.length_cons]; omega
theorem sokFrom_in {room : Int} : ∀ (bs : List Bd) (last : Int), sokFrom room last bs = true → Asc bs ∧ ∀ x ∈ bs, last < x.1 ∧ x.1 < 12 ∧ okW x.2.1 x.2.2.1 x.2.2.2 room = true
  | [], _, _ => ⟨List.Pairwise.nil, fun _ h => by cases h⟩
  | x :: r, last, h => by
    simp only [sokFrom, Bool.and_eq_true, decide_eq_true_eq] at h
    obtain ⟨h1, h2⟩ := sokFrom_in r x.1 h.2.2.2
    refine ⟨List.pairwise_cons.2 ⟨fun z hz => (h2 z hz).1, h1⟩, fun z hz => ?_⟩
    rcases List.mem_cons.1 hz with rfl | hz
    · exact ⟨h.2.1, h.2.2.1, h.1⟩
    · have := h2 z hz
      exact ⟨by omega, this.2.1, this.2.2⟩
theorem sok_in {room : Int} {bs : List Bd} (h : sok room bs = true) : Asc bs ∧ ∀ x ∈ bs, -1 < x.1 ∧ x.1 < 12 ∧ okW x.2.1 x.2.2.1 x.2.2.2 room = true := sokFrom_in bs (-1) h
theorem sok_iff {bs : List Bd} : sok 16 bs = true ↔ Asc bs ∧ ∀ x ∈ bs, -1 < x.1 ∧ x.1 < 12 ∧ okW x.2.1 x.2.2.1 x.2.2.2 16 = true := ⟨sok_in, fun h => sokFrom_of bs (-1) h.1 h.2⟩
theorem sok_sv {room : Int} {bs : List Bd} (h : sok room bs = true) {x : Int} {t : Int × Int × Fo} (hx : sv bs x = some t) : -1 < x ∧ x < 12 ∧ okW t.1 t.2.1 t.2.2 room = true := (sok_in h).2 _ (mem_sv hx)

/-- Each term has so many signs at most. -/
def smallL (lim : Int) (bs : List Bd) : Bool := bs.all fun x => decide (1 + (fsz x.2.2.2 : Int) ≤ lim)
/-- The answer of SubstThen. -/
def thR (bs us : List Bd) : List Bd × Bool := if sok 16 bs = true ∧ sok 16 us = true ∧ smallL 16 (thL bs us) = true then (thL bs us, true) else ([], false)

theorem th_ok {bs us : List Bd} (hb : sok 16 bs = true) (hu : sok 16 us = true) : Asc (thL bs us) ∧ ∀ x ∈ thL bs us, -1 < x.1 ∧ x.1 < 12 ∧ okN x.2.1 x.2.2.1 (flen x.2.2.2) = true ∧ fok x.2.2.2 = true ∧ fsz x.2.2.2 ≤ 1000 := by
  have a1 := (sok_in hb).1
  have a2 := (sok_in hu).1
  refine ⟨thL_asc a1 a2, fun x hx => ?_⟩
  have hs := sv_mem (thL_asc a1 a2) hx
  rw [thL_sv a1 a2] at hs
  cases h : sv bs x.1 with
  | some t =>
    rw [thS_some h] at hs
    have h1 := sok_sv hb h
    have h2 := tsub_ok hu h1.2.2
    rw [Option.some.inj hs] at h2
    exact ⟨h1.1, h1.2.1, h2.1, h2.2.1, h2.2.2⟩
  | none =>
    rw [thS_none h] at hs
    have h1 := sok_sv hu hs
    have h2 := (okW_iff _ _ _ _).1 h1.2.2
    exact ⟨h1.1, h1.2.1, h2.1, h2.2.1, by omega⟩
theorem th_sok {bs us : List Bd} (hb : sok 16 bs = true) (hu : sok 16 us = true) : sok 16 (thL bs us) = smallL 16 (thL bs us) := by
  obtain ⟨h1, h2⟩ := th_ok hb hu
  rw [Bool.eq_iff_iff, sok_iff]
  unfold smallL
  rw [List.all_eq_true]
  constructor
  · exact fun h x hx => decide_eq_true ((okW_iff _ _ _ _).1 (h.2 x hx).2.2).2.2
  · exact fun h => ⟨h1, fun x hx => by
      have := h2 x hx
      exact ⟨this.1, this.2.1, (okW_iff _ _ _ _).2 ⟨this.2.2.1, this.2.2.2.1, of_decide_eq_true (h x hx)⟩⟩⟩
theorem thR_cases {bs us : List Bd} {l : List Bd} {t : Bool} (h : thR bs us = (l, t)) : (t = false ∧ l = []) ∨ (t = true ∧ sok 16 bs = true ∧ sok 16 us = true ∧ l = thL bs us ∧ sok 16 l = true) := by
  unfold thR at h
  split at h
  · rename_i hc
    simp only [Prod.mk.injEq] at h
    obtain ⟨rfl, rfl⟩ := h
    exact .inr ⟨rfl, hc.1, hc.2.1, rfl, by rw [th_sok hc.1 hc.2.1]; exact hc.2.2⟩
  · simp only [Prod.mk.injEq] at h
    exact .inl ⟨h.2.symm, h.1.symm⟩
theorem thR_sv {bs us l : List Bd} (h : thR bs us = (l, true)) (x : Int) : sv l x = thS (sv bs) (sv us) x := by
  rcases thR_cases h with ⟨h, _⟩ | ⟨_, h1, h2, rfl, _⟩
  · cases h
  · exact thL_sv (sok_in h1).1 (sok_in h2).1 x
theorem th_sub {bs us l : List Bd} (h : thR bs us = (l, true)) (s v : Int) (k : Fo) : tsub (sv l) s v k = tsub (sv us) (tsub (sv bs) s v k).1 (tsub (sv bs) s v k).2.1 (tsub (sv bs) s v k).2.2 := by
  rw [tsub_th]
  exact tsub_congr fun x _ => thR_sv h x
/-- P21. -/
theorem th_twice {bs us l : List Bd} (h : thR bs us = (l, true)) {s v s1 v1 s2 v2 : Int} {k k1 k2 : Fo} (h1 : sdR bs s v k = (s1, v1, k1, true)) (h2 : sdR us s1 v1 k1 = (s2, v2, k2, true)) : sdR l s v k = (s2, v2, k2, true) := by
  rcases sdR_cases h1 with ⟨e, _⟩ | ⟨_, _, ho, ht, _⟩
  · cases e
  rcases sdR_cases h2 with ⟨e, _⟩ | ⟨_, _, _, ht2, ho2⟩
  · cases e
  rcases thR_cases h with ⟨e, _⟩ | ⟨_, _, _, _, hs⟩
  · cases e
  refine sdR_of hs ho ?_ (by have := ((okW_iff _ _ _ _).1 ho2).2.2; omega)
  rw [th_sub h, ht]; exact ht2
/-- P22. -/
theorem th_three {bs us ws x y z v : List Bd} (h : thR bs us = (x, true)) (h1 : thR x ws = (y, true)) (h2 : thR us ws = (z, true)) (h3 : thR bs z = (v, true)) : y = v := by
  rcases thR_cases h1 with ⟨e, _⟩ | ⟨_, _, _, _, hy⟩
  · cases e
  rcases thR_cases h3 with ⟨e, _⟩ | ⟨_, _, _, _, hv⟩
  · cases e
  refine asc_ext (sok_in hy).1 (sok_in hv).1 fun w => ?_
  rw [thR_sv h1, thR_sv h3]
  unfold thS
  cases hb : sv bs w with
  | some t =>
    have hx := thR_sv h w
    rw [thS_some hb] at hx
    rw [hx]
    dsimp only
    rw [tsub_th, tsub_congr (τ := sv z) fun u _ => (thR_sv h2 u).symm]
  | none =>
    have hx := thR_sv h w
    rw [thS_none hb] at hx
    rw [hx]
    dsimp only
    rw [thR_sv h2]; rfl
end Go.Proofs.YtpfkhgiiojikbaaGreat

/-! TI: The program's then: what variables stand for, if others are put into that. -/
namespace Go.Proofs.YtpfkhgiiojikbaaGreat
open Go.RowKit Go.Deep Go.Maps

/-- What the copy says, while some are still to come. -/
def thF (bs us : List Bd) (left : Lit → Bool) (x : Int) : Option (Int × Int × Fo) := if left (.int .i64 x) = true then sv us x else thS (sv bs) (sv us) x
theorem thF_step {bs us : List Bd} {left : Lit → Bool} {x : Int} {t : Int × Int × Fo} (hs : sv bs x = some t) (y : Int) : thF bs us (fun z => left z && !z.sameKey (.int .i64 x)) y = if x = y then some (tsub (sv us) t.1 t.2.1 t.2.2) else thF bs us left y := by
  unfold thF
  by_cases e : x = y
  · subst e
    rw [if_pos rfl, if_neg (by simp [Lit.sameKey]), thS_some hs]
  · rw [if_neg e]
    have : (Lit.int .i64 y).sameKey (.int .i64 x) = false := by simp [Lit.sameKey]; exact fun h => e h.symm
    simp only [this, Bool.not_false, Bool.and_true]
theorem thF_rng {bs us : List Bd} (h1 : Rng (sv bs)) (h2 : Rng (sv us)) (left : Lit → Bool) : Rng (thF bs us left) := fun x t ht => by
  unfold thF at ht
  split at ht
  · exact h2 x t ht
  · cases hb : sv bs x with
    | some u => exact h1 x u hb
    | none => rw [thS_none hb] at ht; exact h2 x t ht
theorem below_grown {w w' : World} (h : Below w.heap.size w w') (row : Option Nat) : w.grownBy w' row := ⟨h.os, h.tape, h.output, h.size, fun i hi _ => h.block i hi⟩
def TnPost (bs us : List Bd) (w : World) (e : Ending) (w' : World) : Prop := ∃ g, e = .returned (.map (some g)) ∧ Below w.heap.size w w' ∧ MapF w' g (thS (sv bs) (sv us)) ∧ w.heap.size ≤ g

set_option maxRecDepth 100000 in
set_option maxHeartbeats 2000000 in
theorem then_any (bs us : List Bd) (b c : Nat) (w : World) (hm : MapIs w b bs) (hu : MapIs w c us) (hr1 : Rng (sv bs)) (hr2 : Rng (sv us)) (hbo : Bof bs 1000) :
    Calls Tryz.prog 32 #[.map (some b), .map (some c)] w (TnPost bs us w) := by
  have HU := Lib.hid hu
  have HR1 := Lib.hid hr1
  have HR2 := Lib.hid hr2
  have HBO := Lib.hid hbo
  obtain ⟨n1, D1, hown1, hn1, hx1⟩ := hm
  have HX1 := Lib.hid hx1
  have HO1 := Lib.hid hown1
  have hbl := hown1.lt
  have hHF : Hid (MapF w c (sv us)) := hu.toF hr2
  obtain ⟨D2, hown2, hx2⟩ := hHF.out
  have hcon : Calls Tryz.prog 53 #[.map (some c)] w (fun e w' => e = .returned (.map (some w.heap.size)) ∧ w'.ownsMap Tryz.prog 90 rdV w.heap.size 12 D2 ∧ w'.ownsMap Tryz.prog 90 rdV c 12 D2 ∧ Below w.heap.size w w') := AnyW.maps_Clone_owns Tryz.cloneS 90 rdV c 12 D2 w hown2
  have HX2 := Lib.hid hx2
  clear hown1 hx1 hu hr1 hr2 hbo hown2 hHF hx2
  go_enter Tryz.func32, Tryz.ntmps32
  go_wp2_with fail
  with_reducible refine hcon.mono ?_
  rintro e w1 ⟨rfl, ho1, _, hb1⟩
  have hown1 : w1.ownsMap Tryz.prog 90 rdV b n1 D1 := by
    obtain ⟨es, clock, h1, h2⟩ := HO1.out
    exact ⟨es, clock, (hb1.block b hbl).trans h1, h2⟩
  have hgl := ho1.lt
  have HF1 : Hid (MapF w1 w.heap.size (sv us)) := ⟨D2, ho1, fun x hw => ⟨(HX2.out x hw).1, fun s v k hs => by
    obtain ⟨h1, nv, h2, h3⟩ := (HX2.out x hw).2 s v k hs
    exact ⟨h1, nv, h2, (h3.below hb1).mono (Nat.le_refl _) hb1.size⟩⟩⟩
  have HB1 := Lib.hid hb1
  clear hcon ho1 HX2 HO1 hb1
  have HOWN := Lib.hid hown1
  clear hown1
  go_wp2_with (at_range; refine wpList_range_own _ rfl _ 59 rfl 90 55 law underM rdV b n1 D1 rfl HOWN.out ?_; intro w0 hrg0 hg0 hs0)
  go_frame
  have HRG := Lib.hid hrg0
  have hb0 : Below w1.heap.size w1 w0 := ⟨hg0.os, hg0.tape, hg0.output, hg0.size, fun i hi => hg0.block i hi (by simp)⟩
  have HF0 : Hid (MapF w0 w.heap.size (thF bs us (Maps.has D1))) := (HF1.out.below hb0).congr fun x hw => by
    unfold thF
    split
    · rfl
    · rename_i h
      cases hs : sv bs x with
      | none => rw [thS_none hs]
      | some t => exact absurd ((HX1.out x hw).2 _ _ _ hs).1 h
  have HB0 : Hid (Below w.heap.size w w0) := HB1.out.trans (hb0.mono HB1.out.size)
  have hr0 : w.heap.size < w1.heap.size := hgl
  clear hrg0 hg0 hb0 HF1 HB1 HOWN hgl
  generalize w1.heap.size = r at *
  go_loopw [6] (fun _ wr => ∃ (left : Lit → Bool) (cnt : Nat), Hid (wr.ranges Tryz.prog 90 rdV b r n1 D1 left cnt) ∧ Hid (MapF wr w.heap.size (thF bs us left)) ∧ Hid (Below w.heap.size w wr)) (fun _ wr => wr.rangeLeft b r)
  case atStart => exact ⟨_, _, HRG, HF0, HB0⟩
  case round =>
    clear HRG HF0 HB0
    obtain ⟨left, cnt, HRG, HF, HB⟩ := hrel
    go_wp2_with (at_next; refine wpList_next_ranges (α := Int) (β := Value) _ rfl _ rfl 90 law rdV (Value.int .i64) (fun v => v) (fun key kl hkey => by obtain ⟨x, rfl, _⟩ := Maps.keyOf_int_inv (q := .i64) (by kernel_rfl) hkey; exact ⟨x, rfl⟩) (fun v y _ => ⟨v, rfl⟩) b r n1 D1 left cnt rfl HRG.out ?_ ?_)
    · intro hc0 hl0
      have HFE : Hid (MapF wr w.heap.size (thS (sv bs) (sv us))) := HF.out.congr fun x _ => by unfold thF; rw [if_neg (by rw [hl0]; simp)]
      go_wp2_with fail
      go_ret
      exact ⟨_, rfl, HB.out, HFE.out, Nat.le_refl _⟩
    · intro x cv kl yd yl w2 cnt1 hkey hlx hv hat hrg2 hlt hg2 hs2 hen
      obtain ⟨x', ex, rfl, hwx⟩ := Maps.keyOf_int_inv (q := .i64) (by kernel_rfl) hkey
      obtain rfl : x = x' := by simpa using ex
      obtain ⟨s, v, k, hsx, nv, hnode, rfl⟩ : ∃ s v k, sv bs x = some (s, v, k) ∧ ∃ nv, NodeIs w 0 w.heap.size nv s v k ∧ nv = cv := by
        have hh := ranges_has HRG.out law hlx
        cases hs : sv bs x with
        | none => rw [(HX1.out x hwx).1 hs] at hh; cases hh
        | some t =>
          obtain ⟨_, nv, h2, h3⟩ := (HX1.out x hwx).2 t.1 t.2.1 t.2.2 hs
          refine ⟨_, _, _, rfl, nv, h3, ?_⟩
          have h4 := hat (.held .nilIface)
          rw [h2] at h4
          simp only [rdV, Option.some.injEq, Prod.mk.injEq] at hv
          rw [← hv.1] at h4
          exact DataW.held.inj h4
      have hxr := HR1.out x _ hsx
      have hbk := HBO.out x _ hsx
      have hcell := ranges_cells HRG.out hg2
      have hrl := HRG.out.lt
      have hlf := HRG.out.left_eq
      have HF2 := Lib.hid (HF.out.keep hg2 (show w.heap.size ≠ r by omega) hcell)
      have HB2 : Hid (Below w.heap.size w w2) := HB.out.grown hg2 HB.out.size (fun j hj => by cases hj; omega)
      have HN2 : Hid (NodeIs w2 0 w2.heap.size nv s v k) := (hnode.below HB2.out).mono (Nat.le_refl _) HB2.out.size
      have HC := Lib.hid (apply_any us c s v k nv w2 HN2.out (HU.out.below HB2.out) hbk.1 hbk.2.1 hbk.2.2)
      have HRG2 := Lib.hid hrg2
      have HST := Lib.hid (fun y => thF_step (us := us) (left := left) hsx y)
      clear hnode hat hv hkey hrg2 hg2 hcell hbk hsx hlx
      go_wp2_with fail
      with_reducible refine HC.out.mono ?_
      rintro e w4 ⟨nv1, rfl, hb4, hn4⟩
      have HN4 := Lib.hid hn4
      have HF4 := Lib.hid (HF2.out.below hb4)
      have HB4 := Lib.hid (HB2.out.trans (hb4.mono HB2.out.size))
      have HRG4 := Lib.hid (HRG2.out.kept (below_grown hb4 none) (by simp) (by simp))
      clear hb4 hn4 HC HF2 HB2 HN2 HRG2 hen
      obtain ⟨D4, hown4, hx4⟩ := HF4.out
      have HOWN4 := Lib.hid hown4
      have HX4 := Lib.hid hx4
      have hm12 : 12 < maxLen := by unfold maxLen; omega
      have HKEY := Lib.hid (key_of hwx)
      clear hown4 hx4 HF4
      go_wp2_with (at_mapUpdate; refine wpList_mapUpdate_own (H := Value) _ rfl _ _ _ 59 rfl 90 55 law underM rdV w.heap.size 12 D4 rfl HOWN4.out hm12 (.int .i64 x) nv1 (.int .i64 x) rfl rfl HKEY.out (.held nv1) [] rfl ?_; intro w5 hown5 hgrow5; have HF5 := Lib.hid (MapF.put (t := tsub (sv us) s v k) HOWN4.out HX4.out (thF_rng HR1.out HR2.out left) hxr hown5 hgrow5 HN4.out); have HG5 := Lib.hid hgrow5; clear hown5 hgrow5; go_frame)
      have HRG5 := Lib.hid (HRG4.out.kept HG5.out (fun e => by have := Option.some.inj e; omega) (fun e => by have := Option.some.inj e; omega))
      go_roundw
      case rel => exact ⟨_, cnt1, HRG5, HF5.out.congr fun y _ => HST.out y, HB4.out.grown HG5.out HB4.out.size (fun j hj => by cases hj; exact Nat.le_refl _)⟩
      case measure => rw [HRG5.out.left_eq, hlf]; exact hlt
end Go.Proofs.YtpfkhgiiojikbaaGreat
