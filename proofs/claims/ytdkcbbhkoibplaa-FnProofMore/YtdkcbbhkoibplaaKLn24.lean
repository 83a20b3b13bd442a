/- Several texts in one: LKS. -/
import Derived.Test.YtdkcbbhkoibplaaKLn19
import Derived.Test.YtdkcbbhkoibplaaKLn20
import Derived.Test.YtdkcbbhkoibplaaKLn23

/-! LKS: l71Links: a term, links one behind the other, where they lead; drawn. -/
namespace Go.Proofs.Ytdkcbbhkoibplaa
open Go.RowKit Go.Deep

/-- The boxes of the results, of the term and of where the links lead. -/
structure KL (w : World) (br p bt : Nat) (s v : Int) (T : Value) (sn vn : Int) (Tn : Value) (u : World) : Prop where
  adv : Adv w br p u
  hbt : w.heap.size + 2 ≤ bt
  size : bt + 2 ≤ u.heap.size
  t0 : u.cell? ⟨bt, 0, none⟩ = some (.int .i64 s)
  t1 : u.cell? ⟨bt, 1, none⟩ = some (.int .i64 v)
  t2 : u.cell? ⟨bt, 2, none⟩ = some T
  n0 : u.cell? ⟨bt + 1, 0, none⟩ = some (.int .i64 sn)
  n1 : u.cell? ⟨bt + 1, 1, none⟩ = some (.int .i64 vn)
  n2 : u.cell? ⟨bt + 1, 2, none⟩ = some Tn
  r : ∀ b, b = w.heap.size ∨ b = w.heap.size + 1 → u.cell? ⟨b, 0, none⟩ = some (.int .i64 0) ∧ u.cell? ⟨b, 1, none⟩ = some (.int .i64 0) ∧ u.cell? ⟨b, 2, none⟩ = some (.slice none 0 0)
  f : ∀ b i, b = w.heap.size ∨ b = w.heap.size + 1 ∨ b = bt + 1 → u.frozen? ⟨b, i, none⟩ = false
section
variable {w : World} {br p p' bt : Nat} {s v : Int} {T : Value} {sn vn : Int} {Tn : Value} {u u' : World}
theorem KL.keep (h : KL w br p bt s v T sn vn Tn u) (ha : Adv w br p' u') (hsz : u.heap.size ≤ u'.heap.size) (hc : ∀ (b i : Nat) (x : Value), w.heap.size ≤ b → b < bt + 2 → u.cell? ⟨b, i, none⟩ = some x → u'.cell? ⟨b, i, none⟩ = some x) (hf : ∀ b i, w.heap.size ≤ b → b < bt + 2 → u'.frozen? ⟨b, i, none⟩ = u.frozen? ⟨b, i, none⟩) : KL w br p' bt s v T sn vn Tn u' := by
  have hb := h.hbt
  refine ⟨ha, hb, Nat.le_trans h.size hsz, hc _ _ _ (by omega) (by omega) h.t0, hc _ _ _ (by omega) (by omega) h.t1, hc _ _ _ (by omega) (by omega) h.t2, hc _ _ _ (by omega) (by omega) h.n0, hc _ _ _ (by omega) (by omega) h.n1, hc _ _ _ (by omega) (by omega) h.n2, fun b hb' => ?_, fun b i hb' => (hf b i (by omega) (by omega)).trans (h.f b i hb')⟩
  obtain ⟨c0, c1, c2⟩ := h.r b hb'
  exact ⟨hc _ _ _ (by omega) (by omega) c0, hc _ _ _ (by omega) (by omega) c1, hc _ _ _ (by omega) (by omega) c2⟩
theorem KL.more (h : KL w br p bt s v T sn vn Tn u) (hbr : br < w.heap.size) (ha : Adv u br p' u') : KL w br p' bt s v T sn vn Tn u' := by
  have hs := h.size
  exact h.keep (h.adv.trans ha) ha.size (fun b i x h1 h2 hx => ha.cell hx (by dsimp only; omega)) (fun b i h1 h2 => ha.frozen (by dsimp only; omega))
theorem KL.low (h : KL w br p bt s v T sn vn Tn u) (hb : Below u.heap.size u u') : KL w br p bt s v T sn vn Tn u' := by
  have hs := h.size
  exact h.keep (h.adv.more hb) hb.size (fun b i x h1 h2 hx => cell_low hb hx) (fun b i h1 h2 => hb.frozen (by dsimp only; omega))
theorem KL.setn (h : KL w br p bt s v T sn vn Tn u) (s' v' : Int) (T' : Value) : KL w br p bt s v T s' v' T' (s3 u (bt + 1) (.int .i64 s') (.int .i64 v') T') := by
  have hb := h.hbt
  obtain ⟨c0, c1, c2⟩ := s3_in (x := .int .i64 s') (y := .int .i64 v') (z := T') h.n0 h.n1 h.n2
  have hf : ∀ {b i : Nat}, b ≠ bt + 1 → (s3 u (bt + 1) (.int .i64 s') (.int .i64 v') T').cell? ⟨b, i, none⟩ = u.cell? ⟨b, i, none⟩ := fun hb' => (s3_far (q := ⟨_, _, none⟩) hb').1
  refine ⟨?_, hb, by rw [s3_size]; exact h.size, (hf (by omega)).trans h.t0, (hf (by omega)).trans h.t1, (hf (by omega)).trans h.t2, c0, c1, c2, fun b hb' => ?_, fun b i hb' => by rw [s3_fr]; exact h.f b i hb'⟩
  · unfold s3; exact ((h.adv.store (by dsimp only; omega) _).store (by dsimp only; omega) _).store (by dsimp only; omega) _
  · obtain ⟨q0, q1, q2⟩ := h.r b hb'
    exact ⟨(hf (by omega)).trans q0, (hf (by omega)).trans q1, (hf (by omega)).trans q2⟩
end
/-- Where the term that the links lead to lies. -/
def NK (br bt : Nat) (a : Option Addr) (k : Fo) (u : World) : Prop := ∃ L H, Sl u L H a k ∧ br < L ∧ H ≤ u.heap.size ∧ (H ≤ bt ∨ bt + 2 ≤ L)
theorem NK.sl {br bt : Nat} {a : Option Addr} {k : Fo} {u : World} (h : NK br bt a k u) : Sl u (br + 1) u.heap.size a k := by
  obtain ⟨L, H, h1, h2, h3, _⟩ := h
  exact h1.mono (by omega) h3
theorem NK.keep {br bt : Nat} {a : Option Addr} {k : Fo} {u u' : World} (h : NK br bt a k u) (hs : ∀ b, br < b → b < u.heap.size → b ≠ bt + 1 → u'.heap[b]? = u.heap[b]?) (hle : u.heap.size ≤ u'.heap.size) : NK br bt a k u' := by
  obtain ⟨L, H, h1, h2, h3, h4⟩ := h
  exact ⟨L, H, h1.same (fun b q1 q2 => hs b (by omega) (by omega) (by omega)), h2, by omega, h4⟩
theorem NK.low {br bt : Nat} {a : Option Addr} {k : Fo} {u u' : World} (h : NK br bt a k u) (hb : Below u.heap.size u u') : NK br bt a k u' := h.keep (fun b _ h2 _ => hb.block b h2) hb.size
theorem NK.adv {br bt p : Nat} {a : Option Addr} {k : Fo} {u u' : World} (h : NK br bt a k u) (ha : Adv u br p u') : NK br bt a k u' := h.keep (fun b h1 h2 _ => ha.same (lo := br + 1) (Nat.le_refl _) (.inl (by omega)) b (by omega) h2) ha.size
def SmallLs (ls : List Lk) : Prop := ∀ x ∈ ls, x.2.2.1.length ≤ 1000 ∧ x.2.2.2.length ≤ 1000
def LlPost (br p : Nat) (w : World) (e : Ending) (w' : World) : Prop :=
  ∃ s v a c k ls A2 C2 sn vn an cn kn q, e = .returned (.tuple #[.agg #[.int .i64 s, .int .i64 v, .slice a (flen k) c], .slice A2 (List.length ls) C2, .agg #[.int .i64 sn, .int .i64 vn, .slice an (flen kn) cn]]) ∧ OkZ s v k ∧ 1 + fsz k ≤ 7 ∧ ls.length ≤ 5 ∧ ls.length ≤ C2 ∧ SmallLs ls ∧ p ≤ q ∧ q ≤ p + 700000 ∧ Adv w br q w' ∧ Sl w' w.heap.size w'.heap.size a k ∧ LSl w' w.heap.size w'.heap.size A2 ls ∧ Sl w' w.heap.size w'.heap.size an kn
def set6 (u : World) (n : Nat) (x y z x' y' z' : Value) : World := (((((u.setCell ⟨n, 0, none⟩ x).setCell ⟨n, 1, none⟩ y).setCell ⟨n, 2, none⟩ z).setCell ⟨n + 1, 0, none⟩ x').setCell ⟨n + 1, 1, none⟩ y').setCell ⟨n + 1, 2, none⟩ z'
theorem ll_end {w u : World} {br p q bt : Nat} {s v : Int} {a : Option Addr} {c : Nat} {k : Fo} {ls : List Lk} {A2 : Option Addr} {C2 : Nat} {sn vn : Int} {an : Option Addr} {cn : Nat} {kn : Fo} {T Tn : Value} (h : KL w br q bt s v T sn vn Tn u) (hok : OkZ s v k) (hz : 1 + fsz k ≤ 7) (hl5 : ls.length ≤ 5) (hsm : SmallLs ls) (h1 : p ≤ q) (h2 : q ≤ p + 700000)
    (ht : Sl u (w.heap.size + 2) bt a k) (hls : LOwn u (bt + 2) ls A2 C2) (hn : ∃ L H, Sl u L H an kn ∧ w.heap.size + 2 ≤ L ∧ H ≤ u.heap.size) (x y z x' y' z' : Value) :
    LlPost br p w (.returned (.tuple #[.agg #[.int .i64 s, .int .i64 v, .slice a (flen k) c], .slice A2 ls.length C2, .agg #[.int .i64 sn, .int .i64 vn, .slice an (flen kn) cn]])) (set6 u w.heap.size x y z x' y' z').drew := by
  have hbt := h.hbt
  have hsz := h.size
  have h0 : Same (w.heap.size + 2) u.heap.size u (set6 u w.heap.size x y z x' y' z') := by
    unfold set6
    iterate 6 refine Same.setCell ?_ (.inl (by dsimp only; omega)) _
    exact fun _ _ _ => rfl
  have hs6 : (set6 u w.heap.size x y z x' y' z').heap.size = u.heap.size := by simp [set6]
  have ha : Adv w br q (set6 u w.heap.size x y z x' y' z') := by
    unfold set6
    exact (((((h.adv.store (by dsimp only; omega) _).store (by dsimp only; omega) _).store (by dsimp only; omega) _).store (by dsimp only; omega) _).store (by dsimp only; omega) _).store (by dsimp only; omega) _
  generalize set6 u w.heap.size x y z x' y' z' = X at h0 hs6 ha ⊢
  have hd : Below X.heap.size X X.drew := (Below.refl _ _).drew
  have hs : Same (w.heap.size + 2) u.heap.size u X.drew := fun b q1 q2 => (hd.block b (by omega)).trans (h0 b q1 q2)
  have hle : u.heap.size ≤ X.drew.heap.size := by have := hd.size; omega
  obtain ⟨L, H, n1, n2, n3⟩ := hn
  have n1' : Sl u (w.heap.size + 2) u.heap.size an kn := n1.mono n2 n3
  exact ⟨s, v, a, c, k, ls, A2, C2, sn, vn, an, cn, kn, q, rfl, hok, hz, hl5, hls.cap, hsm, h1, h2, ha.more hd, ((ht.mono (Nat.le_refl _) (by omega)).same hs).mono (by omega) hle, ((hls.lsl.mono (lo' := w.heap.size + 2) (by omega) (Nat.le_refl _)).same hs).mono (by omega) hle, (n1'.same hs).mono (by omega) hle⟩

set_option maxRecDepth 100000 in
set_option maxHeartbeats 8000000 in
theorem l71Links_any (br p : Nat) (es : List Eqd) (A : Option Addr) (C : Nat) (w : World) (hr : Rd w br p) (hp : p ≤ 1000000) (he : ESl w (br + 1) w.heap.size A es) (hel : es.length ≤ 1000) :
    Calls Try.prog 79 #[.pointer (some ⟨br, 0, none⟩), .slice A es.length C, .int .i64 5] w (LlPost br p w) := by
  have hlt := hr.lt
  obtain ⟨ti, hti, htz, hts, htb⟩ := Try.infoLink
  have HTI : Hid (Try.prog.info? 43 = some ti ∧ ti.zero = some (.agg #[.int .i64 0, .bool false, .slice none 0 0, .slice none 0 0]) ∧ ti.size = 4 ∧ ti.bytes = 64) := ⟨hti, htz, hts, htb⟩
  have HE := Lib.hid he
  have HR := Lib.hid hr
  clear hr he hti htz hts htb
  have HR0 := Lib.hid ((HR.out.alloc (.cells #[.int .i64 0, .int .i64 0, .slice none 0 0] 35)).alloc (.cells #[.int .i64 0, .int .i64 0, .slice none 0 0] 35))
  go_enter Try.func79, Try.ntmps79
  go_wp2_with fail
  have hpk : pkN 2 = 21 := rfl
  have hzk : szN 2 = 7 := rfl
  with_reducible refine (l71Term_ok 2 3 3 br p _ (by omega) (by omega) (by omega) (by omega) (by omega) HR0.out (by omega)).mono ?_
  rintro e w1 ⟨s, v, a, c, k, p1, rfl, hok, hp1, hp1', hz, ha1, hl⟩
  rw [hpk] at hp1'
  rw [hzk] at hz
  have HOK := Lib.hid hok
  have hs1 := ha1.size
  simp at hs1 hl
  have HK1 : Hid (KL w br p1 w1.heap.size s v (.slice a (flen k) c) s v (.slice a (flen k) c) (((w1.alloc (.cells #[.int .i64 s, .int .i64 v, .slice a (flen k) c] 35)).alloc (.cells #[.int .i64 s, .int .i64 v, .slice a (flen k) c] 35)).alloc (.cells #[] 43))) := by
    have c0 : ∀ i, ((w.alloc (.cells #[.int .i64 0, .int .i64 0, .slice none 0 0] 35)).alloc (.cells #[.int .i64 0, .int .i64 0, .slice none 0 0] 35)).cell? ⟨w.heap.size, i, none⟩ = #[Value.int .i64 0, .int .i64 0, .slice none 0 0][i]? := fun i => by rw [World.cell?_alloc_lt _ _ _ (by simp), World.cell?_alloc_at _ _ _ _ (by simp)]
    have c1 : ∀ i, ((w.alloc (.cells #[.int .i64 0, .int .i64 0, .slice none 0 0] 35)).alloc (.cells #[.int .i64 0, .int .i64 0, .slice none 0 0] 35)).cell? ⟨w.heap.size + 1, i, none⟩ = #[Value.int .i64 0, .int .i64 0, .slice none 0 0][i]? := fun i => by rw [World.cell?_alloc_at _ _ _ _ (by simp)]
    have b1 := box_low w1 (.cells #[.int .i64 s, .int .i64 v, .slice a (flen k) c] 35)
    have b2 := box_low (w1.alloc (.cells #[.int .i64 s, .int .i64 v, .slice a (flen k) c] 35)) (.cells #[.int .i64 s, .int .i64 v, .slice a (flen k) c] 35)
    have b3 := box_low ((w1.alloc (.cells #[.int .i64 s, .int .i64 v, .slice a (flen k) c] 35)).alloc (.cells #[.int .i64 s, .int .i64 v, .slice a (flen k) c] 35)) (.cells #[] 43)
    have hall : ∀ {q : Addr} {x : Value}, q.block < w.heap.size + 2 → q.block ≠ br → ((w.alloc (.cells #[.int .i64 0, .int .i64 0, .slice none 0 0] 35)).alloc (.cells #[.int .i64 0, .int .i64 0, .slice none 0 0] 35)).cell? q = some x → (((w1.alloc (.cells #[.int .i64 s, .int .i64 v, .slice a (flen k) c] 35)).alloc (.cells #[.int .i64 s, .int .i64 v, .slice a (flen k) c] 35)).alloc (.cells #[] 43)).cell? q = some x := fun h1 h2 hx => cell_low b3 (cell_low b2 (cell_low b1 (ha1.cell hx h2)))
    have d0 : ∀ i x, #[Value.int .i64 s, .int .i64 v, .slice a (flen k) c][i]? = some x → (((w1.alloc (.cells #[.int .i64 s, .int .i64 v, .slice a (flen k) c] 35)).alloc (.cells #[.int .i64 s, .int .i64 v, .slice a (flen k) c] 35)).alloc (.cells #[] 43)).cell? ⟨w1.heap.size, i, none⟩ = some x := fun i x hx => cell_low b3 (cell_low b2 (by rw [World.cell?_alloc_at _ _ _ _ (by simp)]; exact hx))
    have d1 : ∀ i x, #[Value.int .i64 s, .int .i64 v, .slice a (flen k) c][i]? = some x → (((w1.alloc (.cells #[.int .i64 s, .int .i64 v, .slice a (flen k) c] 35)).alloc (.cells #[.int .i64 s, .int .i64 v, .slice a (flen k) c] 35)).alloc (.cells #[] 43)).cell? ⟨w1.heap.size + 1, i, none⟩ = some x := fun i x hx => cell_low b3 (by rw [World.cell?_alloc_at _ _ _ _ (by simp)]; exact hx)
    have hadv : Adv w br p1 (((w1.alloc (.cells #[.int .i64 s, .int .i64 v, .slice a (flen k) c] 35)).alloc (.cells #[.int .i64 s, .int .i64 v, .slice a (flen k) c] 35)).alloc (.cells #[] 43)) := (((((Adv.start HR.out (((Below.refl _ _).alloc (Nat.le_refl _) (.cells #[.int .i64 0, .int .i64 0, .slice none 0 0] 35)).alloc (by simp) (.cells #[.int .i64 0, .int .i64 0, .slice none 0 0] 35))).trans ha1).alloc _).alloc _).alloc _)
    refine ⟨hadv, by omega, by simp, d0 0 _ rfl, d0 1 _ rfl, d0 2 _ rfl, d1 0 _ rfl, d1 1 _ rfl, d1 2 _ rfl, fun b hb => ?_, fun b i hb => ?_⟩
    · rcases hb with rfl | rfl
      · exact ⟨hall (by simp) (by dsimp only; omega) (c0 0), hall (by simp) (by dsimp only; omega) (c0 1), hall (by simp) (by dsimp only; omega) (c0 2)⟩
      · exact ⟨hall (by simp) (by dsimp only; omega) (c1 0), hall (by simp) (by dsimp only; omega) (c1 1), hall (by simp) (by dsimp only; omega) (c1 2)⟩
    · rcases hb with rfl | rfl | rfl
      · rw [b3.frozen (by simp; omega), b2.frozen (by simp; omega), b1.frozen (by dsimp only; omega), ha1.frozen (by simp <;> omega), World.frozen?_alloc_past _ _ _ (by simp), World.frozen?_alloc_at _ _ _ _ (by simp)]
      · rw [b3.frozen (by simp; omega), b2.frozen (by simp; omega), b1.frozen (by dsimp only; omega), ha1.frozen (by simp), World.frozen?_alloc_at _ _ _ _ (by simp)]
      · rw [b3.frozen (by simp), World.frozen?_alloc_at _ _ _ _ (by simp)]
  have hlow3 : Below w1.heap.size w1 (((w1.alloc (.cells #[.int .i64 s, .int .i64 v, .slice a (flen k) c] 35)).alloc (.cells #[.int .i64 s, .int .i64 v, .slice a (flen k) c] 35)).alloc (.cells #[] 43)) := (((Below.refl _ _).alloc (Nat.le_refl _) _).alloc (by simp) _).alloc (by simp; omega) _
  have HT1 : Hid (Sl (((w1.alloc (.cells #[.int .i64 s, .int .i64 v, .slice a (flen k) c] 35)).alloc (.cells #[.int .i64 s, .int .i64 v, .slice a (flen k) c] 35)).alloc (.cells #[] 43)) (w.heap.size + 2) w1.heap.size a k) := hl.same (Same.of_below hlow3)
  have HLO1 : Hid (LOwn (((w1.alloc (.cells #[.int .i64 s, .int .i64 v, .slice a (flen k) c] 35)).alloc (.cells #[.int .i64 s, .int .i64 v, .slice a (flen k) c] 35)).alloc (.cells #[] 43)) (w1.heap.size + 2) [] (some ⟨w1.heap.size + 2, 0, none⟩) 0) := by
    have h := LOwn.start (w := (w1.alloc (.cells #[.int .i64 s, .int .i64 v, .slice a (flen k) c] 35)).alloc (.cells #[.int .i64 s, .int .i64 v, .slice a (flen k) c] 35)) (base := w1.heap.size + 2) (by simp)
    rw [show ((w1.alloc (.cells #[.int .i64 s, .int .i64 v, .slice a (flen k) c] 35)).alloc (.cells #[.int .i64 s, .int .i64 v, .slice a (flen k) c] 35)).heap.size = w1.heap.size + 2 from by simp] at h
    exact h
  clear ha1 hl hok hlow3 HR0 hpk hzk
  go_wp2_with fail
  with_reducible refine (pick_any 6 br p1 _ (HK1.out.adv.rd HR.out) (by omega) (by omega) (by omega)).mono ?_
  rintro e w2 ⟨y, rfl, hy, hb2⟩
  have ha2 : Adv (((w1.alloc (.cells #[.int .i64 s, .int .i64 v, .slice a (flen k) c] 35)).alloc (.cells #[.int .i64 s, .int .i64 v, .slice a (flen k) c] 35)).alloc (.cells #[] 43)) br (p1 + 1) w2 := hb2
  have HK := Lib.hid (HK1.out.more hlt ha2)
  have HT : Hid (Sl w2 (w.heap.size + 2) w1.heap.size a k) := HT1.out.same (ha2.same (by simp; omega) (.inl (by omega)))
  have HLO := Lib.hid (HLO1.out.adv ha2 (by omega))
  have HN : Hid (NK br w1.heap.size a k w2) := ⟨w.heap.size + 2, w1.heap.size, HT.out, by omega, by have := HK.out.size; omega, .inl (Nat.le_refl _)⟩
  have HOKN : Hid (okW s v k 64 = true) := (okW_iff _ _ _ _).2 ⟨HOK.out.1, HOK.out.2.1, by omega⟩
  have hy5 : y ≤ 5 := by omega
  have hy6 : y * 100000 ≤ 5 * 100000 := Nat.mul_le_mul hy5 (Nat.le_refl _)
  have HSM : Hid (SmallLs []) := fun x hx => by simp at hx
  clear hb2 ha2 HK1 HT1 HLO1 hy
  go_wp2_with fail
  go_loopw [11, 12] (fun o n wr => ∃ (m : Nat) (ls : List Lk) (A2 : Option Addr) (C2 : Nat) (sn vn : Int) (an : Option Addr) (cn : Nat) (kn : Fo) (q : Nat), o = .slice A2 ls.length C2 ∧ n = .int .i64 (m : Int) ∧ ls.length + m ≤ 5 ∧ p ≤ q ∧ q + m * 100000 ≤ p + 600000 ∧ Hid (KL w br q w1.heap.size s v (.slice a (flen k) c) sn vn (.slice an (flen kn) cn) wr) ∧ Hid (NK br w1.heap.size an kn wr) ∧ Hid (Sl wr (w.heap.size + 2) w1.heap.size a k) ∧ Hid (LOwn wr (w1.heap.size + 2) ls A2 C2) ∧ Hid (okW sn vn kn 64 = true) ∧ Hid (SmallLs ls) ∧ Hid (∃ L H, Sl wr L H an kn ∧ w.heap.size + 2 ≤ L ∧ H ≤ wr.heap.size)) (fun _ n _ => (intOf n).toNat)
  case atStart => exact ⟨y, [], _, 0, s, v, a, c, k, p1 + 1, rfl, rfl, by simp; omega, by omega, by omega, HK, HN, HT, HLO, HOKN, HSM, ⟨w.heap.size + 2, w1.heap.size, HT.out, Nat.le_refl _, by have := HK.out.size; omega⟩⟩
  case round =>
    clear HK HN HT HLO HOKN HSM hy5 hy6
    obtain ⟨m, ls, A2, C2, sn, vn, an, cn, kn, q, rfl, rfl, hlm, hq1, hq2, HK, HN, HT, HLO, HOKN, HSM, HN2⟩ := hrel
    have hsk := HK.out.size
    by_cases hm : 0 < m
    · have gm : (0 : Int) < (m : Int) := by omega
      have hmm : (m - 1) * 100000 + 100000 = m * 100000 := by omega
      obtain ⟨n0, n1, n2⟩ : _ ∧ _ ∧ _ := ⟨HK.out.n0, HK.out.n1, HK.out.n2⟩
      have HNOT : Hid (∀ b, wr.heap.size ≤ b → (Value.slice A2 ls.length C2).ownBlock ≠ some b) := fun b hb e => by
        obtain ⟨xs, hown, _⟩ := HLO.out
        have := (hown.lt b e).2
        omega
      have HEr : Hid (ESl wr (br + 1) wr.heap.size A es) := (HE.out.same (HK.out.adv.same (Nat.le_refl _) (.inl (by omega)))).mono (Nat.le_refl _) HK.out.adv.size
      go_wp2_with fail
      with_reducible refine (l71Link_any br q es A C sn vn an cn kn _ (HK.out.adv.rd HR.out) (by omega) HEr.out (by omega) HN.out.sl HOKN.out).mono ?_
      rintro e w3 ⟨eq, back, pA, pC, place, B, D, bs, t3, q3, rfl, hq3, hq3', ha3, hpi, hpl, hbi, hbl⟩
      have hbx := box_low w3 (.cells #[.int .i64 eq, .bool back, .slice pA place.length pC, .slice B bs.length D] 43)
      have hs3 := ha3.size
      have HK3 := Lib.hid ((HK.out.more hlt ha3).low hbx)
      have HN3 := Lib.hid ((HN.out.adv ha3).low hbx)
      have HT3 : Hid (Sl (w3.alloc (.cells #[.int .i64 eq, .bool back, .slice pA place.length pC, .slice B bs.length D] 43)) (w.heap.size + 2) w1.heap.size a k) := (HT.out.same (ha3.same (by omega) (.inl (by omega)))).same (Same.of_below (hbx.mono (by omega)))
      have HLO3 := Lib.hid ((HLO.out.adv ha3 (by omega)).low hbx)
      have HN23 : Hid (∃ L H, Sl (w3.alloc (.cells #[.int .i64 eq, .bool back, .slice pA place.length pC, .slice B bs.length D] 43)) L H an kn ∧ w.heap.size + 2 ≤ L ∧ H ≤ (w3.alloc (.cells #[.int .i64 eq, .bool back, .slice pA place.length pC, .slice B bs.length D] 43)).heap.size) := by
        obtain ⟨L, H, g1, g2, g3⟩ := HN2.out
        exact ⟨L, H, (g1.same (ha3.same g3 (.inl (by omega)))).same (Same.of_below (hbx.mono (by omega))), g2, by simp; omega⟩
      have HLB : Hid (Lb w3.heap.size eq back pA pC place B D bs (w3.alloc (.cells #[.int .i64 eq, .bool back, .slice pA place.length pC, .slice B bs.length D] 43))) := Lb.new (hpi.mono (Nat.zero_le _) (Nat.le_refl _)) (hbi.1.mono (Nat.zero_le _) (Nat.le_refl _))
      have HPI : Hid (ISc (w3.alloc (.cells #[.int .i64 eq, .bool back, .slice pA place.length pC, .slice B bs.length D] 43)) wr.heap.size w3.heap.size pA pC place) := hpi.same (Same.of_below hbx)
      have hbi1 : BSl w3 wr.heap.size w3.heap.size B bs := hbi.1
      have HBI : Hid (BSl (w3.alloc (.cells #[.int .i64 eq, .bool back, .slice pA place.length pC, .slice B bs.length D] 43)) wr.heap.size w3.heap.size B bs) := hbi1.same (Same.of_below hbx)
      obtain ⟨n0', n1', n2'⟩ : _ ∧ _ ∧ _ := ⟨HK3.out.n0, HK3.out.n1, HK3.out.n2⟩
      obtain ⟨l0, l1, l2, l3⟩ : _ ∧ _ ∧ _ ∧ _ := ⟨HLB.out.c0, HLB.out.c1, HLB.out.c2, HLB.out.c3⟩
      clear ha3 hpi hbi hbi1 hbx HK HN HT HLO HN2 n0 n1 n2 HEr
      go_wp2_with fail
      have hxe : ESl (w3.alloc (.cells #[.int .i64 eq, .bool back, .slice pA place.length pC, .slice B bs.length D] 43)) 0 (w3.alloc (.cells #[.int .i64 eq, .bool back, .slice pA place.length pC, .slice B bs.length D] 43)).heap.size A es := (HE.out.same (HK3.out.adv.same (Nat.le_refl _) (.inl (by omega)))).mono (Nat.zero_le _) HK3.out.adv.size
      have hxn : Sl (w3.alloc (.cells #[.int .i64 eq, .bool back, .slice pA place.length pC, .slice B bs.length D] 43)) 0 (w3.alloc (.cells #[.int .i64 eq, .bool back, .slice pA place.length pC, .slice B bs.length D] 43)).heap.size an kn := HN3.out.sl.mono (Nat.zero_le _) (Nat.le_refl _)
      with_reducible refine (sLinkDo_any es A C sn vn an cn kn eq back pA pC place B D bs _ hxe (by omega) hxn HLB.out.hp (by omega) HLB.out.hb (by omega)).mono ?_
      rintro e w4 ⟨a4, c4, s4, v4, k4, t4, hd4, rfl, hb4, hl4⟩
      have hbx := box_low w4 (.cells #[.int .i64 s4, .int .i64 v4, .slice a4 (flen k4) c4] 35)
      have hb34 : Below (w3.alloc (.cells #[.int .i64 eq, .bool back, .slice pA place.length pC, .slice B bs.length D] 43)).heap.size (w3.alloc (.cells #[.int .i64 eq, .bool back, .slice pA place.length pC, .slice B bs.length D] 43)) (w4.alloc (.cells #[.int .i64 s4, .int .i64 v4, .slice a4 (flen k4) c4] 35)) := hb4.trans (hbx.mono hb4.size)
      have hs4 := hb4.size
      simp at hs4 hl4
      have HD4 := Lib.hid hd4
      have HK4 := Lib.hid (HK3.out.low hb34)
      have HN4 := Lib.hid (HN3.out.low hb34)
      have HT4 : Hid (Sl (w4.alloc (.cells #[.int .i64 s4, .int .i64 v4, .slice a4 (flen k4) c4] 35)) (w.heap.size + 2) w1.heap.size a k) := HT3.out.same (Same.of_below (hb34.mono (by simp; omega)))
      have HLO4 := Lib.hid (HLO3.out.low hb34)
      have HN24 : Hid (∃ L H, Sl (w4.alloc (.cells #[.int .i64 s4, .int .i64 v4, .slice a4 (flen k4) c4] 35)) L H an kn ∧ w.heap.size + 2 ≤ L ∧ H ≤ (w4.alloc (.cells #[.int .i64 s4, .int .i64 v4, .slice a4 (flen k4) c4] 35)).heap.size) := by
        obtain ⟨L, H, g1, g2, g3⟩ := HN23.out
        exact ⟨L, H, g1.same (Same.of_below (hb34.mono g3)), g2, by have := hb34.size; omega⟩
      have HLB4 := Lib.hid (HLB.out.next hb34)
      have HPI4 : Hid (ISc (w4.alloc (.cells #[.int .i64 s4, .int .i64 v4, .slice a4 (flen k4) c4] 35)) wr.heap.size w3.heap.size pA pC place) := HPI.out.same (Same.of_below (hb34.mono (by simp)))
      have HBI4 : Hid (BSl (w4.alloc (.cells #[.int .i64 s4, .int .i64 v4, .slice a4 (flen k4) c4] 35)) wr.heap.size w3.heap.size B bs) := HBI.out.same (Same.of_below (hb34.mono (by simp)))
      have HX4 : Hid (Tb w4.heap.size s4 v4 a4 c4 k4 (w4.alloc (.cells #[.int .i64 s4, .int .i64 v4, .slice a4 (flen k4) c4] 35))) := Tb.new (hl4.mono (Nat.zero_le _) (Nat.le_refl _))
      have HXL4 : Hid (Sl (w4.alloc (.cells #[.int .i64 s4, .int .i64 v4, .slice a4 (flen k4) c4] 35)) (w3.heap.size + 1) w4.heap.size a4 k4) := hl4.same (Same.of_below hbx)
      clear hb4 hl4 hd4 hbx hb34 HK3 HN3 HT3 HLO3 HN23 HLB HPI HBI n0' n1' n2' l0 l1 l2 l3 hxe hxn
      cases t3 with
      | false =>
        go_wp2_with fail
        go_roundw
        case rel => exact ⟨m - 1, ls, A2, C2, sn, vn, an, cn, kn, q3, rfl, by go_num, by omega, by omega, by omega, HK4, HN4, HT4, HLO4, HOKN, HSM, HN24⟩
        case measure => simp [intOf]; omega
      | true =>
      cases t4 with
      | false =>
        go_wp2_with fail
        go_roundw
        case rel => exact ⟨m - 1, ls, A2, C2, sn, vn, an, cn, kn, q3, rfl, by go_num, by omega, by omega, by omega, HK4, HN4, HT4, HLO4, HOKN, HSM, HN24⟩
        case measure => simp [intOf]; omega
      | true =>
      have HOK4 : Hid (okW s4 v4 k4 64 = true) := by
        rcases ansR_cases HD4.out with ⟨h, _⟩ | ⟨_, h⟩
        · cases h
        · unfold lkR at h
          split at h
          · exact lk1_ok h
          · cases h
      obtain ⟨x0, x1, x2⟩ : _ ∧ _ ∧ _ := ⟨HX4.out.c0, HX4.out.c1, HX4.out.c2⟩
      go_wp2_with fail
      with_reducible refine (l1Count_any 1000 s4 v4 a4 c4 k4 40 _ HX4.out.sl (by omega) (by omega) (by omega)).mono ?_
      rintro e w5 ⟨rfl, hb5⟩
      have HK5 := Lib.hid (HK4.out.low hb5)
      have HN5 := Lib.hid (HN4.out.low hb5)
      have hs5 := hb5.size
      simp at hs5
      have HT5 : Hid (Sl w5 (w.heap.size + 2) w1.heap.size a k) := HT4.out.same (Same.of_below (hb5.mono (by simp; omega)))
      have HLO5 := Lib.hid (HLO4.out.low hb5)
      have HN25 : Hid (∃ L H, Sl w5 L H an kn ∧ w.heap.size + 2 ≤ L ∧ H ≤ w5.heap.size) := by
        obtain ⟨L, H, g1, g2, g3⟩ := HN24.out
        exact ⟨L, H, g1.same (Same.of_below (hb5.mono g3)), g2, by have := hb5.size; omega⟩
      have HLB5 := Lib.hid (HLB4.out.next hb5)
      have HPI5 : Hid (ISc w5 wr.heap.size w3.heap.size pA pC place) := HPI4.out.same (Same.of_below (hb5.mono (by simp; omega)))
      have HBI5 : Hid (BSl w5 wr.heap.size w3.heap.size B bs) := HBI4.out.same (Same.of_below (hb5.mono (by simp; omega)))
      have HX5 := Lib.hid (HX4.out.next hb5)
      have HXL5 : Hid (Sl w5 (w3.heap.size + 1) w4.heap.size a4 k4) := HXL4.out.same (Same.of_below (hb5.mono (by simp)))
      clear hb5 HK4 HN4 HT4 HLO4 HN24 HLB4 HPI4 HBI4 HX4 HXL4 x0 x1 x2
      by_cases hc : cntT s4 v4 k4 40 ≤ 40
      · have gc : decide (cntT s4 v4 k4 40 ≤ 40) = true := decide_eq_true hc
        obtain ⟨x0, x1, x2⟩ : _ ∧ _ ∧ _ := ⟨HX5.out.c0, HX5.out.c1, HX5.out.c2⟩
        obtain ⟨l0, l1, l2, l3⟩ : _ ∧ _ ∧ _ ∧ _ := ⟨HLB5.out.c0, HLB5.out.c1, HLB5.out.c2, HLB5.out.c3⟩
        obtain ⟨xs, hown, hall⟩ := HLO5.out
        have HOWN := Lib.hid hown
        have HALL := Lib.hid hall
        clear hown hall HLO5
        have HFZ : Hid (∀ i, w5.frozen? ⟨w1.heap.size + 1, i, none⟩ = false) := fun i => HK5.out.f _ i (.inr (.inr rfl))
        have HSET : Hid (∀ (g cap : Nat) (w6 : World), w6.ownsRow (w1.heap.size + 2) 43 4 (.slice (some ⟨g, 0, none⟩) (ls.length + 1) cap) (ls.length + 1) (xs ++ [.int .i64 eq, .bool back, .slice pA place.length pC, .slice B bs.length D]) → (w5.alloc (.cells #[.int .i64 eq, .bool back, .slice pA place.length pC, .slice B bs.length D] 43)).grownBy w6 (Value.slice A2 ls.length C2).ownBlock → ((Value.slice A2 ls.length C2).ownBlock = some g ∨ g = w5.heap.size + 1) →
            KL w br q3 w1.heap.size s v (.slice a (flen k) c) sn vn (.slice an (flen kn) cn) w6 ∧ Sl w6 (w.heap.size + 2) w1.heap.size a k ∧ LOwn w6 (w1.heap.size + 2) (ls ++ [(eq, back, place, bs)]) (some ⟨g, 0, none⟩) cap ∧ Sl w6 (w3.heap.size + 1) w4.heap.size a4 k4 ∧ Tb w4.heap.size s4 v4 a4 c4 k4 w6 ∧ w5.heap.size ≤ w6.heap.size) := by
          intro g cap w6 hown6 hgrow6 hat6
          have hs6 := hgrow6.size
          simp at hs6
          have hob : ∀ b, (Value.slice A2 ls.length C2).ownBlock = some b → w1.heap.size + 2 ≤ b ∧ b < w5.heap.size := fun b hb => HOWN.out.lt b hb
          have hob3 : ∀ b, (Value.slice A2 ls.length C2).ownBlock = some b → b < wr.heap.size := fun b hb => by
            rcases Nat.lt_or_ge b wr.heap.size with h | h
            · exact h
            · exact absurd hb (HNOT.out b h)
          have hkeep : ∀ b, b < w5.heap.size → (Value.slice A2 ls.length C2).ownBlock ≠ some b → w6.heap[b]? = w5.heap[b]? := fun b h1 h2 => by
            rw [hgrow6.block b (by simp; omega) (fun e => h2 e.symm), Below.heap_alloc _ _ _ h1]
          have hfar : Below (w1.heap.size + 2) w5 w6 := Below.grown ((Below.refl _ _).alloc (by omega) _) hgrow6 (by simp; omega) (fun b hb => (hob b hb).1)
          refine ⟨HK5.out.keep (Below.grown (HK5.out.adv.alloc _) hgrow6 (by have := HK5.out.adv.size; simp; omega) (fun b hb => by have := hob b hb; omega)) (by omega) (fun b i x h1 h2 hx => (hfar.cell (p := ⟨b, i, none⟩) h2).trans hx) (fun b i h1 h2 => hfar.frozen (p := ⟨b, i, none⟩) h2), HT5.out.same (Same.of_below (hfar.mono (by omega))), LOwn.append HOWN.out HALL.out hown6 HPI5.out HBI5.out (by omega) (by omega) (fun b hb => .inl (hob3 b hb)) hgrow6 hat6, HXL5.out.same (fun b h1 h2 => hkeep b (by omega) (fun e => by have := hob3 b e; omega)), ?_, by omega⟩
          have hk4 : ∀ (i : Nat) (x : Value), w5.cell? ⟨w4.heap.size, i, none⟩ = some x → w6.cell? ⟨w4.heap.size, i, none⟩ = some x := fun i x hx => by
            have hbk : Same w4.heap.size (w4.heap.size + 1) w5 w6 := fun b h1 h2 => hkeep b (by omega) (fun e => by have := hob3 _ e; omega)
            rw [hbk.cell (Nat.le_refl _) (Nat.lt_succ_self _)]; exact hx
          exact ⟨hk4 _ _ HX5.out.c0, hk4 _ _ HX5.out.c1, hk4 _ _ HX5.out.c2, (HXL5.out.same (fun b h1 h2 => hkeep b (by omega) (fun e => by have := hob3 b e; omega))).mono (Nat.zero_le _) (by omega)⟩
        clear HK5 HN5 HT5 HN25 HLB5 HPI5 HBI5 HXL5 HX5
        go_wp2_with (at_builtin; refine wpList_append_lies _ rfl _ _ 66 rfl (w1.heap.size + 2) 43 ti _ 4 64 Try.underlying66 HTI.out.1 HTI.out.2.1 HTI.out.2.2.1 HTI.out.2.2.2 rfl (by omega) (.slice A2 ls.length C2) ls.length xs rfl (HOWN.out.alloc _) ⟨w5.heap.size, 0, none⟩ 1 1 [.int .i64 eq, .bool back, .slice pA place.length pC, .slice B bs.length D] rfl rfl (World.news_of_block (heap_alloc_new _ _)) (by simp [Value.oneCell']) (by omega) (by unfold maxLen; omega) (by omega) (by simp; omega) (w5.heap.size + 1) (by simp) ?_; intro g cap w6 hown6 hgrow6 hat6 hg6; have HX6 := Lib.hid (HSET.out g cap w6 hown6 hgrow6 hat6); clear hown6 hgrow6 hat6 hg6; have x0' := HX6.out.2.2.2.2.1.c0; have x1' := HX6.out.2.2.2.2.1.c1; have x2' := HX6.out.2.2.2.2.1.c2; have m0' := HX6.out.1.n0; have m1' := HX6.out.1.n1; have m2' := HX6.out.1.n2; have f0' := HX6.out.1.f (w1.heap.size + 1) 0 (.inr (.inr rfl)); have f1' := HX6.out.1.f (w1.heap.size + 1) 1 (.inr (.inr rfl)); have f2' := HX6.out.1.f (w1.heap.size + 1) 2 (.inr (.inr rfl)))
        have hs6 := HX6.out.2.2.2.2.2
        have hla : (ls ++ [((eq, back, place, bs) : Lk)]).length = ls.length + 1 := by simp
        have HK7 := Lib.hid (HX6.out.1.setn s4 v4 (.slice a4 (flen k4) c4))
        have hs37 : ∀ {L H : Nat}, (w1.heap.size + 1 < L ∨ H ≤ w1.heap.size + 1) → Same L H w6 (s3 w6 (w1.heap.size + 1) (.int .i64 s4) (.int .i64 v4) (.slice a4 (flen k4) c4)) := fun h => by
          unfold s3
          iterate 3 refine Same.setCell ?_ (by dsimp only; omega) _
          exact fun _ _ _ => rfl
        have HT7 : Hid (Sl (s3 w6 (w1.heap.size + 1) (.int .i64 s4) (.int .i64 v4) (.slice a4 (flen k4) c4)) (w.heap.size + 2) w1.heap.size a k) := HX6.out.2.1.same (hs37 (.inr (by omega)))
        have HLO7 : Hid (LOwn (s3 w6 (w1.heap.size + 1) (.int .i64 s4) (.int .i64 v4) (.slice a4 (flen k4) c4)) (w1.heap.size + 2) (ls ++ [(eq, back, place, bs)]) (some ⟨g, 0, none⟩) cap) := HX6.out.2.2.1.same (hs37 (.inl (by omega))) (by rw [s3_size]; exact Nat.le_refl _)
        have hx7 : Sl (s3 w6 (w1.heap.size + 1) (.int .i64 s4) (.int .i64 v4) (.slice a4 (flen k4) c4)) (w3.heap.size + 1) w4.heap.size a4 k4 := HX6.out.2.2.2.1.same (hs37 (.inl (by omega)))
        have HN7 : Hid (NK br w1.heap.size a4 k4 (s3 w6 (w1.heap.size + 1) (.int .i64 s4) (.int .i64 v4) (.slice a4 (flen k4) c4))) := ⟨w3.heap.size + 1, w4.heap.size, hx7, by omega, by rw [s3_size]; omega, .inr (by omega)⟩
        have HN27 : Hid (∃ L H, Sl (s3 w6 (w1.heap.size + 1) (.int .i64 s4) (.int .i64 v4) (.slice a4 (flen k4) c4)) L H a4 k4 ∧ w.heap.size + 2 ≤ L ∧ H ≤ (s3 w6 (w1.heap.size + 1) (.int .i64 s4) (.int .i64 v4) (.slice a4 (flen k4) c4)).heap.size) := ⟨w3.heap.size + 1, w4.heap.size, hx7, by omega, by rw [s3_size]; omega⟩
        have HSM7 : Hid (SmallLs (ls ++ [(eq, back, place, bs)])) := fun x hx => by
          simp only [List.mem_append, List.mem_singleton] at hx
          rcases hx with hx | rfl
          · exact HSM.out x hx
          · exact ⟨hpl, hbl⟩
        clear HX6 hx7 hs37
        go_wp2_with fail
        go_roundw
        case rel => exact ⟨m - 1, ls ++ [(eq, back, place, bs)], some ⟨g, 0, none⟩, cap, s4, v4, a4, c4, k4, q3, by rw [hla], by go_num, by omega, by omega, by omega, HK7, HN7, HT7, HLO7, HOK4, HSM7, HN27⟩
        case measure => simp [intOf]; omega
      · have gc : decide (cntT s4 v4 k4 40 ≤ 40) = false := decide_eq_false hc
        go_wp2_with fail
        go_roundw
        case rel => exact ⟨m - 1, ls, A2, C2, sn, vn, an, cn, kn, q3, rfl, by go_num, by omega, by omega, by omega, HK5, HN5, HT5, HLO5, HOKN, HSM, HN25⟩
        case measure => simp [intOf]; omega
    · have gm : decide ((0 : Int) < (m : Int)) = false := decide_eq_false (by omega)
      have hbt := HK.out.hbt
      obtain ⟨r0, r1, r2⟩ := HK.out.r w.heap.size (.inl rfl)
      obtain ⟨r3, r4, r5⟩ := HK.out.r (w.heap.size + 1) (.inr rfl)
      obtain ⟨f0, f1, f2, f3, f4, f5⟩ : _ ∧ _ ∧ _ ∧ _ ∧ _ ∧ _ := ⟨HK.out.f w.heap.size 0 (.inl rfl), HK.out.f w.heap.size 1 (.inl rfl), HK.out.f w.heap.size 2 (.inl rfl), HK.out.f (w.heap.size + 1) 0 (.inr (.inl rfl)), HK.out.f (w.heap.size + 1) 1 (.inr (.inl rfl)), HK.out.f (w.heap.size + 1) 2 (.inr (.inl rfl))⟩
      have HAT := Lib.hid (cl6_at HK.out.t0 HK.out.t1 HK.out.t2 HK.out.n0 HK.out.n1 HK.out.n2)
      have HN0 : Hid (∀ q, q ∈ (cl6 w1.heap.size (.int .i64 s) (.int .i64 v) (.slice a (flen k) c) (w1.heap.size + 1) (.int .i64 sn) (.int .i64 vn) (.slice an (flen kn) cn)) → q.1.block ≠ w.heap.size) := cl6_blk (by omega) (by omega)
      have HN1 : Hid (∀ q, q ∈ (cl6 w1.heap.size (.int .i64 s) (.int .i64 v) (.slice a (flen k) c) (w1.heap.size + 1) (.int .i64 sn) (.int .i64 vn) (.slice an (flen kn) cn)) → q.1.block ≠ w.heap.size + 1) := cl6_blk (by omega) (by omega)
      haveI : Nonempty (SeenD (cl6 w1.heap.size (.int .i64 s) (.int .i64 v) (.slice a (flen k) c) (w1.heap.size + 1) (.int .i64 sn) (.int .i64 vn) (.slice an (flen kn) cn))) := ⟨⟨_, HAT.out⟩⟩
      have hu0 : ∀ u : SeenD (cl6 w1.heap.size (.int .i64 s) (.int .i64 v) (.slice a (flen k) c) (w1.heap.size + 1) (.int .i64 sn) (.int .i64 vn) (.slice an (flen kn) cn)), u.world.cell? ⟨w1.heap.size, 0, none⟩ = some (.int .i64 s) := fun u => u.at_ (_, _) (by simp [cl6])
      have hu1 : ∀ u : SeenD (cl6 w1.heap.size (.int .i64 s) (.int .i64 v) (.slice a (flen k) c) (w1.heap.size + 1) (.int .i64 sn) (.int .i64 vn) (.slice an (flen kn) cn)), u.world.cell? ⟨w1.heap.size, 1, none⟩ = some (.int .i64 v) := fun u => u.at_ (_, _) (by simp [cl6])
      have hu2 : ∀ u : SeenD (cl6 w1.heap.size (.int .i64 s) (.int .i64 v) (.slice a (flen k) c) (w1.heap.size + 1) (.int .i64 sn) (.int .i64 vn) (.slice an (flen kn) cn)), u.world.cell? ⟨w1.heap.size, 2, none⟩ = some (.slice a (flen k) c) := fun u => u.at_ (_, _) (by simp [cl6])
      have hu3 : ∀ u : SeenD (cl6 w1.heap.size (.int .i64 s) (.int .i64 v) (.slice a (flen k) c) (w1.heap.size + 1) (.int .i64 sn) (.int .i64 vn) (.slice an (flen kn) cn)), u.world.cell? ⟨w1.heap.size + 1, 0, none⟩ = some (.int .i64 sn) := fun u => u.at_ (_, _) (by simp [cl6])
      have hu4 : ∀ u : SeenD (cl6 w1.heap.size (.int .i64 s) (.int .i64 v) (.slice a (flen k) c) (w1.heap.size + 1) (.int .i64 sn) (.int .i64 vn) (.slice an (flen kn) cn)), u.world.cell? ⟨w1.heap.size + 1, 1, none⟩ = some (.int .i64 vn) := fun u => u.at_ (_, _) (by simp [cl6])
      have hu5 : ∀ u : SeenD (cl6 w1.heap.size (.int .i64 s) (.int .i64 v) (.slice a (flen k) c) (w1.heap.size + 1) (.int .i64 sn) (.int .i64 vn) (.slice an (flen kn) cn)), u.world.cell? ⟨w1.heap.size + 1, 2, none⟩ = some (.slice an (flen kn) cn) := fun u => u.at_ (_, _) (by simp [cl6])
      go_wp2_with fail
      refine wp_region_mix (fun w' => ∃ u : SeenD (cl6 w1.heap.size (.int .i64 s) (.int .i64 v) (.slice a (flen k) c) (w1.heap.size + 1) (.int .i64 sn) (.int .i64 vn) (.slice an (flen kn) cn)), w' = u.world) [] [(0, 0), (1, 0), (2, 0), (3, 1), (4, 1), (5, 1)] (by kernel_rfl) (by kernel_rfl) (seenD_drew HAT.out) ?_
      iterate 3
        refine mix_see rfl (fun K hK => ?_)
        go_simp
        refine hK _ ?_
        clear hK K
      clear hu0 hu1 hu2 hu3 hu4 hu5
      iterate 2
        refine mix_hold rfl (fun K hK => ?_)
        go_simp
        refine hK _ _ (seenD_drew (storeD HAT.out HN0.out _ _ _)) ?_
        clear hK K
      refine mix_hold rfl (fun K hK => ?_)
      go_simp
      refine hK _ _ (seenD_drew (storeD (storeD HAT.out HN0.out _ _ _) HN1.out _ _ _)) ?_
      clear hK K
      refine mix_end ?_
      go_wp2_with fail
      refine bodyPost_ret (v := .tuple #[.agg #[.int .i64 s, .int .i64 v, .slice a (flen k) c], .slice A2 ls.length C2, .agg #[.int .i64 sn, .int .i64 vn, .slice an (flen kn) cn]]) ?_ rfl (ll_end HK.out HOK.out (by omega) (by omega) HSM.out (by omega) (by omega) HT.out HLO.out HN2.out _ _ _ _ _ _)
      simp [results, Try.results79, go_sem, r0, r1, r2, r3, r4, r5]
end Go.Proofs.Ytdkcbbhkoibplaa
