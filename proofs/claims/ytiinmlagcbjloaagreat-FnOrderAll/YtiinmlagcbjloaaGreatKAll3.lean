/- Several texts in one: G0, G1, WD, WE. -/
import Derived.Test.YtiinmlagcbjloaaGreatKAll2

/-! G0: The path order on terms, as plain data: it is transitive and irreflexive. Definitions and plain lemmas. -/
namespace Go.Proofs.YtiinmlagcbjloaaGreat

/-- Well-formed terms. -/
inductive Tm
  | var (v : Int)
  | leaf (s : Int)
  | one (t : Tm)
  | two (t u : Tm)

def Tm.size : Tm → Nat
  | .var _ => 1
  | .leaf _ => 1
  | .one t => t.size + 1
  | .two t u => t.size + u.size + 1
def Tm.sign : Tm → Int
  | .var _ => 0
  | .leaf s => s
  | .one _ => 3
  | .two _ _ => 4
def Tm.kids : Tm → List Tm
  | .var _ => []
  | .leaf _ => []
  | .one t => [t]
  | .two t u => [t, u]
theorem Tm.kid_size {s u : Tm} (h : u ∈ s.kids) : u.size < s.size := by
  cases s with
  | var => simp [Tm.kids] at h
  | leaf => simp [Tm.kids] at h
  | one t => simp only [Tm.kids, List.mem_singleton] at h; subst h; simp [Tm.size]
  | two t u' =>
    simp only [Tm.kids, List.mem_cons, List.not_mem_nil, or_false] at h
    rcases h with rfl | rfl <;> simp [Tm.size] <;> omega

variable (rk : Int → Nat)
/-- The path order, by where each sign stands. -/
inductive Gt : Tm → Tm → Prop
  | kid {s t : Tm} : t ∈ s.kids → Gt s t
  | sub {s t u : Tm} : u ∈ s.kids → Gt u t → Gt s t
  | rank {s t : Tm} : s.sign ≠ 0 → t.sign ≠ 0 → s.sign ≠ t.sign → rk s.sign < rk t.sign → (∀ u, u ∈ t.kids → Gt s u) → Gt s t
  | one {a b : Tm} : Gt a b → (∀ u, u ∈ (Tm.one b).kids → Gt (.one a) u) → Gt (.one a) (.one b)
  | fst {a b a' b' : Tm} : Gt a a' → (∀ u, u ∈ (Tm.two a' b').kids → Gt (.two a b) u) → Gt (.two a b) (.two a' b')
  | snd {a b b' : Tm} : Gt b b' → (∀ u, u ∈ (Tm.two a b').kids → Gt (.two a b) u) → Gt (.two a b) (.two a b')

variable {rk}
theorem Gt.trans (N : Nat) : ∀ {s t u : Tm}, s.size + t.size + u.size ≤ N → Gt rk s t → Gt rk t u → Gt rk s u := by
  induction N using Nat.strongRecOn with
  | _ N ih =>
    intro s t u hN h h'
    -- what holds where each argument of t is less than s
    have main : (∀ x, x ∈ t.kids → Gt rk s x) → (∀ y, y ∈ u.kids → Gt rk t y → Gt rk s y) ∧ ∀ x, x ∈ t.kids → Gt rk x u → Gt rk s u := by
      intro hk
      refine ⟨fun y hy hty => ?_, fun x hx hxu => ?_⟩
      · have := Tm.kid_size hy
        exact ih (s.size + t.size + y.size) (by omega) (Nat.le_refl _) h hty
      · have := Tm.kid_size hx
        exact ih (s.size + x.size + u.size) (by omega) (Nat.le_refl _) (hk x hx) hxu
    cases h with
    | kid hm => exact .sub hm h'
    | sub hm hg =>
      have := Tm.kid_size hm
      exact .sub hm (ih _ (by omega) (Nat.le_refl _) hg h')
    | rank h0 h1 hne hr hk =>
      obtain ⟨m1, m2⟩ := main hk
      cases h' with
      | kid hm => exact hk _ hm
      | sub hm hg => exact m2 _ hm hg
      | rank h0' h1' hne' hr' hk' =>
        by_cases e : s.sign = u.sign
        · rw [e] at hr; omega
        · exact .rank h0 h1' e (by omega) fun y hy => m1 y hy (hk' y hy)
      | one hg hk' => exact .rank h0 h1 hne hr fun y hy => m1 y hy (hk' y hy)
      | fst hg hk' => exact .rank h0 h1 hne hr fun y hy => m1 y hy (hk' y hy)
      | snd hg hk' => exact .rank h0 h1 hne hr fun y hy => m1 y hy (hk' y hy)
    | one hg hk =>
      obtain ⟨m1, m2⟩ := main hk
      cases h' with
      | kid hm => exact hk _ hm
      | sub hm hg => exact m2 _ hm hg
      | rank h0' h1' hne' hr' hk' => exact .rank h0' h1' hne' hr' fun y hy => m1 y hy (hk' y hy)
      | one hg' hk' => exact .one (ih _ (by simp [Tm.size] at hN; omega) (Nat.le_refl _) hg hg') fun y hy => m1 y hy (hk' y hy)
    | fst hg hk =>
      obtain ⟨m1, m2⟩ := main hk
      cases h' with
      | kid hm => exact hk _ hm
      | sub hm hg => exact m2 _ hm hg
      | rank h0' h1' hne' hr' hk' => exact .rank h0' h1' hne' hr' fun y hy => m1 y hy (hk' y hy)
      | fst hg' hk' => exact .fst (ih _ (by simp [Tm.size] at hN; omega) (Nat.le_refl _) hg hg') fun y hy => m1 y hy (hk' y hy)
      | snd hg' hk' => exact .fst hg fun y hy => m1 y hy (hk' y hy)
    | snd hg hk =>
      obtain ⟨m1, m2⟩ := main hk
      cases h' with
      | kid hm => exact hk _ hm
      | sub hm hg => exact m2 _ hm hg
      | rank h0' h1' hne' hr' hk' => exact .rank h0' h1' hne' hr' fun y hy => m1 y hy (hk' y hy)
      | fst hg' hk' => exact .fst hg' fun y hy => m1 y hy (hk' y hy)
      | snd hg' hk' => exact .snd (ih _ (by simp [Tm.size] at hN; omega) (Nat.le_refl _) hg hg') fun y hy => m1 y hy (hk' y hy)
theorem Gt.tr {s t u : Tm} (h : Gt rk s t) (h' : Gt rk t u) : Gt rk s u := Gt.trans _ (Nat.le_refl _) h h'
theorem Gt.irrefl (N : Nat) : ∀ {s : Tm}, s.size ≤ N → ¬ Gt rk s s := by
  induction N using Nat.strongRecOn with
  | _ N ih =>
    intro s hN h
    cases h with
    | kid hm => have := Tm.kid_size hm; omega
    | sub hm hg =>
      have := Tm.kid_size hm
      exact ih _ (by omega) (Nat.le_refl _) (hg.tr (.kid hm))
    | rank _ _ hne _ _ => exact hne rfl
    | one hg _ => exact ih _ (by simp [Tm.size] at hN; omega) (Nat.le_refl _) hg
    | fst hg _ => exact ih _ (by simp [Tm.size] at hN; omega) (Nat.le_refl _) hg
    | snd hg _ => exact ih _ (by simp [Tm.size] at hN; omega) (Nat.le_refl _) hg
theorem Gt.ne {s : Tm} : ¬ Gt rk s s := Gt.irrefl _ (Nat.le_refl _)

/-- Some kid is it, or more. -/
def Reach (rk : Int → Nat) (l : List Tm) (t : Tm) : Prop := ∃ u, u ∈ l ∧ (u = t ∨ Gt rk u t)
def All (rk : Int → Nat) (s : Tm) (l : List Tm) : Prop := ∀ u, u ∈ l → Gt rk s u

theorem gt_var {v : Int} {t : Tm} : ¬ Gt rk (.var v) t := by
  intro h
  cases h with
  | kid hm => simp [Tm.kids] at hm
  | sub hm => simp [Tm.kids] at hm
  | rank h0 => exact h0 rfl
theorem gt_before {s t : Tm} (h0 : s.sign ≠ 0) (h1 : t.sign ≠ 0) (hne : s.sign ≠ t.sign) (hr : rk s.sign < rk t.sign) : Gt rk s t ↔ All rk s t.kids :=
  ⟨fun h _ hu => h.tr (.kid hu), fun h => .rank h0 h1 hne hr h⟩
theorem gt_behind {s t : Tm} (hne : s.sign ≠ t.sign) (hr : t.sign = 0 ∨ ¬ rk s.sign < rk t.sign) : Gt rk s t ↔ Reach rk s.kids t := by
  constructor
  · intro h
    cases h with
    | kid hm => exact ⟨_, hm, .inl rfl⟩
    | sub hm hg => exact ⟨_, hm, .inr hg⟩
    | rank _ h1 _ h2 => rcases hr with h | h; exact absurd h h1; exact absurd h2 h
    | one => exact absurd rfl hne
    | fst => exact absurd rfl hne
    | snd => exact absurd rfl hne
  · rintro ⟨u, hu, rfl | h⟩
    · exact .kid hu
    · exact .sub hu h
theorem gt_leaf {s : Int} : ¬ Gt rk (.leaf s) (.leaf s) := Gt.ne
theorem gt_one {a b : Tm} (hne : a ≠ b) : Gt rk (.one a) (.one b) ↔ Gt rk a b := by
  constructor
  · intro h
    cases h with
    | kid hm => simp only [Tm.kids, List.mem_singleton] at hm; subst hm; exact .kid (by simp [Tm.kids])
    | sub hm hg => simp only [Tm.kids, List.mem_singleton] at hm; subst hm; exact hg.tr (.kid (by simp [Tm.kids]))
    | rank _ _ h => exact absurd rfl h
    | one hg => exact hg
  · intro h
    refine .one h fun u hu => ?_
    simp only [Tm.kids, List.mem_singleton] at hu
    subst hu
    exact .sub (by simp [Tm.kids]) h
theorem gt_two_more {a b a' b' : Tm} (h : Gt rk a a') : Gt rk (.two a b) (.two a' b') ↔ Gt rk (.two a b) b' := by
  constructor
  · exact fun h' => h'.tr (.kid (by simp [Tm.kids]))
  · intro h'
    refine .fst h fun u hu => ?_
    simp only [Tm.kids, List.mem_cons, List.not_mem_nil, or_false] at hu
    rcases hu with rfl | rfl
    · exact .sub (by simp [Tm.kids]) h
    · exact h'
theorem gt_two_less {a b a' b' : Tm} (hne : a ≠ a') (h : ¬ Gt rk a a') : Gt rk (.two a b) (.two a' b') ↔ Reach rk [b] (.two a' b') := by
  constructor
  · intro h'
    cases h' with
    | kid hm =>
      simp only [Tm.kids, List.mem_cons, List.not_mem_nil, or_false] at hm
      rcases hm with rfl | rfl
      · exact absurd (.kid (by simp [Tm.kids])) h
      · exact ⟨_, by simp, .inl rfl⟩
    | sub hm hg =>
      simp only [Tm.kids, List.mem_cons, List.not_mem_nil, or_false] at hm
      rcases hm with rfl | rfl
      · exact absurd (hg.tr (.kid (by simp [Tm.kids]))) h
      · exact ⟨_, by simp, .inr hg⟩
    | rank _ _ h' => exact absurd rfl h'
    | fst hg => exact absurd hg h
    | snd => exact absurd rfl hne
  · rintro ⟨u, hu, h'⟩
    simp only [List.mem_singleton] at hu
    subst hu
    rcases h' with rfl | h'
    · exact .kid (by simp [Tm.kids])
    · exact .sub (by simp [Tm.kids]) h'
theorem gt_two_snd {a b b' : Tm} (h : Gt rk b b') : Gt rk (.two a b) (.two a b') := by
  refine .snd h fun u hu => ?_
  simp only [Tm.kids, List.mem_cons, List.not_mem_nil, or_false] at hu
  rcases hu with rfl | rfl
  · exact .kid (by simp [Tm.kids])
  · exact .sub (by simp [Tm.kids]) h
theorem gt_two_not {a b b' : Tm} (hne : b ≠ b') (h : ¬ Gt rk b b') : ¬ Gt rk (.two a b) (.two a b') := by
  intro h'
  have hna : ¬ Gt rk a (.two a b') := fun hg => Gt.ne (hg.tr (.kid (by simp [Tm.kids])))
  cases h' with
  | kid hm =>
    simp only [Tm.kids, List.mem_cons, List.not_mem_nil, or_false] at hm
    rcases hm with hm | hm
    · have := congrArg Tm.size hm; simp [Tm.size] at this; omega
    · rw [← hm] at h; exact h (.kid (by simp [Tm.kids]))
  | sub hm hg =>
    simp only [Tm.kids, List.mem_cons, List.not_mem_nil, or_false] at hm
    rcases hm with rfl | rfl
    · exact hna hg
    · exact h (hg.tr (.kid (by simp [Tm.kids])))
  | rank _ _ h' => exact absurd rfl h'
  | fst hg => exact Gt.ne hg
  | snd hg => exact h hg
end Go.Proofs.YtiinmlagcbjloaaGreat

/-! G1: Terms in memory as terms of the order. Plain lemmas. -/
namespace Go.Proofs.YtiinmlagcbjloaaGreat
open Go.RowKit Go.Deep

def tm1 (s v : Int) (ks : List Tm) : Tm := if s = 0 then .var v else match ks with
  | [] => .leaf s
  | [t] => .one t
  | t :: u :: _ => .two t u
def ftm : Fo → List Tm
  | .nil => []
  | .node _ _ p k r => tm1 p.1 p.2 (ftm k) :: ftm r
def tmOf (s v : Int) (k : Fo) : Tm := tm1 s v (ftm k)

theorem tm_var {v : Int} : tmOf 0 v .nil = .var v := rfl
theorem tm_leaf {s : Int} (h : s = 1 ∨ s = 2) : tmOf s 0 .nil = .leaf s := by rcases h with rfl | rfl <;> rfl
theorem tm_one {x y : Nat} {p : Int × Int} {k : Fo} : tmOf 3 0 (.node x y p k .nil) = .one (tmOf p.1 p.2 k) := rfl
theorem tm_two {x y : Nat} {p : Int × Int} {k : Fo} {x' y' : Nat} {p' : Int × Int} {k' : Fo} : tmOf 4 0 (.node x y p k (.node x' y' p' k' .nil)) = .two (tmOf p.1 p.2 k) (tmOf p'.1 p'.2 k') := rfl
theorem tm_sign {s v : Int} {k : Fo} (h : Shape s v k) : (tmOf s v k).sign = s := by
  cases h with
  | var => rfl
  | leaf _ hs => rw [tm_leaf hs]; rfl
  | one => rfl
  | two => rfl
theorem tm_kids {s v : Int} {k : Fo} (h : Shape s v k) : (tmOf s v k).kids = ftm k := by
  cases h with
  | var => rfl
  | leaf _ hs => rw [tm_leaf hs]; rfl
  | one => rfl
  | two => rfl
theorem ftm_len : ∀ k : Fo, (ftm k).length = flen k
  | .nil => rfl
  | .node _ _ _ _ r => by simp [ftm, flen, ftm_len r]
theorem ftm_at : ∀ (j : Nat) (k : Fo) {x y : Nat} {s v : Int} {kk r : Fo}, fdrop j k = .node x y (s, v) kk r → (ftm k)[j]? = some (tmOf s v kk)
  | 0, .nil, _, _, _, _, _, _, h => by simp [fdrop] at h
  | 0, .node _ _ p k r, x, y, s, v, kk, r', h => by
    simp only [fdrop, BT.node.injEq] at h
    obtain ⟨_, _, rfl, rfl, _⟩ := h
    rfl
  | _ + 1, .nil, _, _, _, _, _, _, h => by simp [fdrop] at h
  | n + 1, .node _ _ _ _ r, _, _, _, _, _, _, h => by
    simp only [fdrop] at h
    simpa [ftm] using ftm_at n r h
theorem ftm_drop : ∀ (j : Nat) (k : Fo), ftm (fdrop j k) = (ftm k).drop j
  | 0, _ => rfl
  | _ + 1, .nil => by simp [fdrop, ftm]
  | n + 1, .node _ _ _ _ r => by simp [fdrop, ftm, ftm_drop n r]
theorem ftm_fer : ∀ k : Fo, ftm (fer k) = ftm k
  | .nil => rfl
  | .node _ _ p k r => by simp only [fer, ftm, ftm_fer k, ftm_fer r]
theorem tm_inj (N : Nat) : ∀ {s v : Int} {k : Fo} {s' v' : Int} {k' : Fo}, Shape s v k → Shape s' v' k' → fsz k ≤ N → tmOf s v k = tmOf s' v' k' → s = s' ∧ v = v' ∧ fer k = fer k' := by
  induction N using Nat.strongRecOn with
  | _ N ih =>
    intro s v k s' v' k' h h' hN he
    have hs := congrArg Tm.sign he
    rw [tm_sign h, tm_sign h'] at hs
    subst hs
    cases h with
    | var =>
      cases h' with
      | var => exact ⟨rfl, by simpa [tm_var] using he, rfl⟩
      | leaf _ hs => rcases hs with h | h <;> omega
    | leaf _ hs =>
      cases h' with
      | var => rcases hs with h | h <;> omega
      | leaf => exact ⟨rfl, rfl, rfl⟩
      | one => rcases hs with h | h <;> omega
      | two => rcases hs with h | h <;> omega
    | one x y p k ho hk =>
      cases h' with
      | leaf _ hs => rcases hs with h | h <;> omega
      | one x' y' p' k' ho' hk' =>
        rw [tm_one, tm_one] at he
        obtain ⟨e1, e2, e3⟩ := ih (fsz k) (by simp [fsz] at hN; omega) (shape_of ho hk) (shape_of ho' hk') (Nat.le_refl _) (Tm.one.inj he)
        exact ⟨rfl, rfl, by simp only [fer]; rw [e3, Prod.ext e1 e2]⟩
    | two x y p k x2 y2 p2 k2 ho hk ho2 hk2 =>
      cases h' with
      | leaf _ hs => rcases hs with h | h <;> omega
      | two x' y' p' k' x2' y2' p2' k2' ho' hk' ho2' hk2' =>
        rw [tm_two, tm_two] at he
        obtain ⟨he1, he2⟩ := Tm.two.inj he
        simp only [fsz] at hN
        obtain ⟨e1, e2, e3⟩ := ih (fsz k) (by omega) (shape_of ho hk) (shape_of ho' hk') (Nat.le_refl _) he1
        obtain ⟨f1, f2, f3⟩ := ih (fsz k2) (by omega) (shape_of ho2 hk2) (shape_of ho2' hk2') (Nat.le_refl _) he2
        exact ⟨rfl, rfl, by simp only [fer]; rw [e3, Prod.ext e1 e2, f3, Prod.ext f1 f2]⟩
theorem tm_teq {s v : Int} {k : Fo} {s' v' : Int} {k' : Fo} (h : Shape s v k) (h' : Shape s' v' k') : teq s v k s' v' k' = true ↔ tmOf s v k = tmOf s' v' k' := by
  constructor
  · intro he
    obtain ⟨rfl, rfl, hf⟩ := teq_iff.1 he
    unfold tmOf
    rw [← ftm_fer k, hf, ftm_fer k']
  · exact fun he => teq_iff.2 (tm_inj _ h h' (Nat.le_refl _) he)
theorem shape_kid {k : Fo} {j x y : Nat} {s' v' : Int} {kk r : Fo} (h : fok k = true) (hd : fdrop j k = .node x y (s', v') kk r) : Shape s' v' kk := by
  have := fok_kid h hd
  exact shape_of this.1 this.2
theorem tm_size {s v : Int} {k : Fo} (N : Nat) : Shape s v k → fsz k ≤ N → (tmOf s v k).size = 1 + fsz k := by
  induction N using Nat.strongRecOn generalizing s v k with
  | _ N ih =>
    intro h hN
    cases h with
    | var => rfl
    | leaf _ hs => rw [tm_leaf hs]; rfl
    | one x y p k ho hk =>
      simp only [fsz] at hN
      rw [tm_one, Tm.size, ih (fsz k) (by omega) (shape_of ho hk) (Nat.le_refl _)]
      simp only [fsz]; omega
    | two x y p k x2 y2 p2 k2 ho hk ho2 hk2 =>
      simp only [fsz] at hN
      rw [tm_two, Tm.size, ih (fsz k) (by omega) (shape_of ho hk) (Nat.le_refl _), ih (fsz k2) (by omega) (shape_of ho2 hk2) (Nat.le_refl _)]
      simp only [fsz]; omega
end Go.Proofs.YtiinmlagcbjloaaGreat

/-! WD: nodeOf, TermOk of the program and of the specification. -/
namespace Go.Proofs.YtiinmlagcbjloaaGreat
open Go.RowKit Go.Deep

def NoPostC (s v : Int) (k : Fo) (room : Int) (w : World) (e : Ending) (w' : World) : Prop :=
  ∃ nv, e = .returned (.tuple #[nv, .bool (okW s v k room)]) ∧ Below w.heap.size w w' ∧ (okW s v k room = true → NodeC w' w.heap.size w'.heap.size nv s v k)
def NoPost (s v : Int) (k : Fo) (room : Int) (w : World) (e : Ending) (w' : World) : Prop :=
  ∃ nv, e = .returned (.tuple #[nv, .bool (okW s v k room)]) ∧ Below w.heap.size w w' ∧ (okW s v k room = true → NodeIs w' w.heap.size w'.heap.size nv s v k)

set_option maxRecDepth 100000 in
set_option maxHeartbeats 400000 in
theorem nodeOf_anyC (s v : Int) (a : Option Addr) (c : Nat) (k : Fo) (room : Int) (w : World) (hl : Sl w 0 w.heap.size a k) (h1 : 0 ≤ room) (h2 : room ≤ 1000) :
    Calls Tryz.prog 20 #[.agg #[.int .i64 s, .int .i64 v, .slice a (flen k) c], .int .i64 room] w (NoPostC s v k room w) := by
  go_enter Tryz.func20, Tryz.ntmps20
  go_wp2_with fail
  with_reducible refine (nodeWithin_any room.toNat s v a c k room (w.heap.size + 1) w.heap.size _ ?_ ?_ ?_ ?_ ?_ ?_ ?_ ?_).mono ?_
  · exact hl.below (((Below.refl _ _).alloc (Nat.le_refl _) _).alloc (by simp) _)
  · omega
  · simp
  · omega
  · omega
  · omega
  · simp [World.cell?_alloc_at]
  · simp [World.frozen?_alloc_at]
  rintro e w2 ⟨nv, r', rfl, hb, hyes⟩
  have hfin : NoPostC s v k room w (.returned (.tuple #[nv, .bool (okW s v k room)])) w2 := by
    refine ⟨nv, rfl, ?_, fun h => (hyes h).2.mono (by simp; omega) (Nat.le_refl _)⟩
    exact ((((Below.refl _ _).alloc (Nat.le_refl _) _).alloc (by simp) _).setCell (by simp) _).trans (hb.mono (by simp; omega))
  have HF := Lib.hid hfin
  clear hfin hyes
  go_wp2_with fail
  go_ret2
  exact HF.out
theorem nodeOf_any (s v : Int) (a : Option Addr) (c : Nat) (k : Fo) (room : Int) (w : World) (hl : Sl w 0 w.heap.size a k) (h1 : 0 ≤ room) (h2 : room ≤ 1000) :
    Calls Tryz.prog 20 #[.agg #[.int .i64 s, .int .i64 v, .slice a (flen k) c], .int .i64 room] w (NoPost s v k room w) :=
  (nodeOf_anyC s v a c k room w hl h1 h2).mono fun _ _ ⟨nv, h1, h2, h3⟩ => ⟨nv, h1, h2, fun h => (h3 h).to⟩

theorem cntT_okW (s v : Int) (k : Fo) (m : Int) : decide (cntT s v k m ≤ m) = okW s v k m := by
  cases h : okW s v k m with
  | true =>
    have h' := (okW_iff _ _ _ _).1 h
    unfold cntT
    rw [if_pos h']
    exact decide_eq_true h'.2.2
  | false =>
    unfold cntT
    rw [if_neg fun h' => by rw [(okW_iff _ _ _ _).2 h'] at h; cases h]
    exact decide_eq_false (by omega)

set_option maxHeartbeats 400000 in
theorem sTermOk_any (s v : Int) (a : Option Addr) (c : Nat) (k : Fo) (w : World) (hl : Sl w 0 w.heap.size a k) :
    Calls Tryz.prog 24 #[.agg #[.int .i64 s, .int .i64 v, .slice a (flen k) c]] w fun e w' => e = .returned (.bool (okW s v k 16)) ∧ Below w.heap.size w w' := by
  have hc := cntT_okW s v k 16
  have HC := Lib.hid hc
  clear hc
  go_enter Tryz.func24, Tryz.ntmps24
  go_wp2_with fail
  with_reducible refine (l1Count_any 16 s v a c k 16 _ ?_ ?_ ?_ ?_).mono ?_
  · exact (hl.below ((Below.refl _ _).alloc (Nat.le_refl _) _)).mono (Nat.le_refl _) (by simp)
  · omega
  · omega
  · omega
  rintro e w2 ⟨rfl, hb⟩
  go_wp2_with fail
  go_ret
  exact ⟨by rw [← HC.out]; rfl, ((Below.refl _ _).alloc (Nat.le_refl _) _).trans (hb.mono (by simp))⟩
end Go.Proofs.YtiinmlagcbjloaaGreat

/-! WE: The reader of a code: l6Open, pick. -/
namespace Go.Proofs.YtiinmlagcbjloaaGreat
open Go.RowKit Go.Deep

/-- A reader lies in block br; its place is p. -/
structure Rd (w : World) (br p : Nat) : Prop where
  lt : br < w.heap.size
  place : w.cell? ⟨br, 1, none⟩ = some (.int .i64 p)
  free : w.frozen? ⟨br, 1, none⟩ = false
  text : ∃ a len cap, w.cell? ⟨br, 0, none⟩ = some (.slice a len cap) ∧ len ≤ 2000 ∧
    (len = 0 ∨ ∃ b o, a = some ⟨b, o, none⟩ ∧ b < br ∧ ∀ i, i < len → ∃ x : Nat, x < 256 ∧ w.cell? ⟨b, o + i, none⟩ = some (.int .u8 x))

theorem Rd.next {w w' : World} {br p p' : Nat} (h : Rd w br p) (hb : Below w.heap.size (w.setCell ⟨br, 1, none⟩ (.int .i64 p')) w') : Rd w' br p' := by
  have hs := hb.size
  simp at hs
  have hlt := h.lt
  refine ⟨by omega, ?_, ?_, ?_⟩
  · rw [hb.cell (by simp; omega)]
    exact World.cell?_setCell_same _ _ _ h.place
  · rw [hb.frozen (by simp; omega), World.frozen?_setCell]
    exact h.free
  · obtain ⟨a, len, cap, h0, h1, h2⟩ := h.text
    refine ⟨a, len, cap, ?_, h1, ?_⟩
    · rw [hb.cell (by simp; omega), World.cell?_setCell_other _ _ _ _ (by intro h'; have := congrArg Addr.off h'; simp at this)]
      exact h0
    · rcases h2 with h2 | ⟨b, o, e, h3, h4⟩
      · exact .inl h2
      · refine .inr ⟨b, o, e, h3, fun i hi => ?_⟩
        obtain ⟨x, hx, hc⟩ := h4 i hi
        exact ⟨x, hx, by rw [hb.cell (by simp; omega), World.cell?_setCell_other _ _ _ _ (by intro h'; have := congrArg Addr.block h'; simp at this; omega)]; exact hc⟩

def PickPost (n : Int) (br p : Nat) (w : World) (e : Ending) (w' : World) : Prop :=
  ∃ x : Nat, e = .returned (.int .i64 x) ∧ ((x : Int) < n ∨ n < 1 ∨ x = 0) ∧ Below w.heap.size (w.setCell ⟨br, 1, none⟩ (.int .i64 ((p + 1 : Nat) : Int))) w'

theorem xor_i64 (X : Nat) (h : X < 1000000000000) : ∃ Y : Nat, bits .xor .i64 (X : Int) ((X : Int) / 64) = Y := by
  have e : (X : Int) / 64 = ((X / 64 : Nat) : Int) := by simp
  rw [e]
  have hx : X ^^^ (X / 64) < 2 ^ 60 := Nat.xor_lt_two_pow (by omega) (by omega)
  refine ⟨X ^^^ (X / 64), ?_⟩
  have h1 : (BitVec.ofInt 64 (X : Int)).toNat = X := by
    rw [BitVec.ofInt_natCast, BitVec.toNat_ofNat]; exact Nat.mod_eq_of_lt (by omega)
  have h2 : (BitVec.ofInt 64 ((X / 64 : Nat) : Int)).toNat = X / 64 := by
    rw [BitVec.ofInt_natCast, BitVec.toNat_ofNat]; exact Nat.mod_eq_of_lt (by omega)
  show IntKind.i64.wrap ((BitVec.ofInt 64 (X : Int) ^^^ BitVec.ofInt 64 ((X / 64 : Nat) : Int)).toNat : Int) = _
  rw [BitVec.toNat_xor, h1, h2, IntKind.wrap_i64]
  omega

set_option maxRecDepth 100000 in
set_option maxHeartbeats 1000000 in
theorem pick_any (n : Int) (br p : Nat) (w : World) (h : Rd w br p) (hp : p ≤ 1000000000) (hn0 : -1000 ≤ n) (hn : n ≤ 1000000) :
    Calls Tryz.prog 14 #[.pointer (some ⟨br, 0, none⟩), .int .i64 n] w (PickPost n br p w) := by
  obtain ⟨hlt, hpl, hfr, a, len, cap, htx, hle, hby⟩ := h
  have HBY := Lib.hid hby
  clear hby
  by_cases h1 : n < 1
  · have e1 : decide (n < 1) = true := by simp; omega
    go_enter Tryz.func14, Tryz.ntmps14
    go_wp2_with fail
    go_ret
    exact ⟨0, rfl, .inr (.inl h1), Below.refl _ _⟩
  have e1 : decide (n < 1) = false := by simp; omega
  by_cases h2 : len = 0
  · subst h2
    go_enter Tryz.func14, Tryz.ntmps14
    go_wp2_with fail
    go_ret
    exact ⟨0, rfl, .inr (.inr rfl), Below.refl _ _⟩
  have e2 : ((len : Int) == 0) = false := by simp; omega
  obtain ⟨b, o, rfl, hbr, hby⟩ := HBY.out.resolve_left h2
  by_cases h3 : p < len
  · obtain ⟨x, hx, hxc⟩ := hby p h3
    clear HBY hby
    go_enter Tryz.func14, Tryz.ntmps14
    go_wp2_with fail
    go_ret
    obtain ⟨z, hz⟩ := Int.eq_ofNat_of_zero_le (Int.emod_nonneg (x : Int) (show n ≠ 0 by omega))
    exact ⟨z, by rw [← hz]; rfl, .inl (by rw [← hz]; exact Int.emod_lt_of_pos _ (by omega)), Below.refl _ _⟩
  · have hlen : 0 < len := by omega
    obtain ⟨q1, hq1⟩ : ∃ q1 : Nat, (p : Int) % (len : Int) = q1 := ⟨p % len, by simp⟩
    obtain ⟨q2, hq2⟩ : ∃ q2 : Nat, ((p : Int) * 7 + 3) % (len : Int) = q2 := ⟨(p * 7 + 3) % len, by simp⟩
    obtain ⟨q3, hq3⟩ : ∃ q3 : Nat, (p : Int) / (len : Int) = q3 := ⟨p / len, by simp⟩
    have hl1 : q1 < len := by have := Int.emod_lt_of_pos (p : Int) (show (0 : Int) < len by omega); omega
    have hl2 : q2 < len := by have := Int.emod_lt_of_pos ((p : Int) * 7 + 3) (show (0 : Int) < len by omega); omega
    have hl3 : q3 ≤ 1000000000 := by have := Int.ediv_le_self (len : Int) (show (0 : Int) ≤ p by omega); omega
    obtain ⟨x1, hx1, hc1⟩ := hby q1 hl1
    obtain ⟨x2, hx2, hc2⟩ := hby q2 hl2
    clear HBY hby
    have hr0 : ∀ u : After w.heap.size (w.setCell ⟨br, 1, none⟩ (.int .i64 ((p : Int) + 1))), u.world.cell? ⟨br, 0, none⟩ = some (.slice (some ⟨b, o, none⟩) len cap) := fun u =>
      u.cell (by simp; omega) (by rw [World.cell?_setCell_other _ _ _ _ (by intro h'; have := congrArg Addr.off h'; simp at this)]; exact htx)
    have hr1 : ∀ u : After w.heap.size (w.setCell ⟨br, 1, none⟩ (.int .i64 ((p : Int) + 1))), u.world.cell? ⟨b, o + q1, none⟩ = some (.int .u8 x1) := fun u =>
      u.cell (by simp; omega) (by rw [World.cell?_setCell_other _ _ _ _ (by intro h'; have := congrArg Addr.block h'; simp at this; omega)]; exact hc1)
    have hr2 : ∀ u : After w.heap.size (w.setCell ⟨br, 1, none⟩ (.int .i64 ((p : Int) + 1))), u.world.cell? ⟨b, o + q2, none⟩ = some (.int .u8 x2) := fun u =>
      u.cell (by simp; omega) (by rw [World.cell?_setCell_other _ _ _ _ (by intro h'; have := congrArg Addr.block h'; simp at this; omega)]; exact hc2)
    go_enter Tryz.func14, Tryz.ntmps14
    go_wp2_with fail
    refine wp_region_after w.heap.size (by kernel_rfl) (by kernel_rfl) ?_
    repeat (go_big_quiet_step (fail))
    refine wpQuiet_nil ?_
    rintro u ⟨⟨_, hu⟩, rfl⟩
    clear hr0 hr1 hr2 hc1 hc2 hq1 hq2 hq3
    obtain ⟨X, hX⟩ : ∃ X : Nat, (x1 : Int) * 131 + x2 * 1117 + p * 29 + q3 * 53 = X := ⟨x1 * 131 + x2 * 1117 + p * 29 + q3 * 53, by omega⟩
    have hXb : X < 1000000000000 := by omega
    simp only [hX]
    clear hX
    have hxor := xor_i64 X (by omega)
    obtain ⟨Y, hY⟩ := hxor
    go_wp2_with fail
    go_ret
    obtain ⟨z, hz⟩ := Int.eq_ofNat_of_zero_le (Int.emod_nonneg (Y : Int) (show n ≠ 0 by omega))
    refine ⟨z, ?_, .inl (by rw [← hz]; exact Int.emod_lt_of_pos _ (by omega)), by simpa using hu⟩
    show Ending.returned (.int .i64 ((Y : Int) % n)) = _
    rw [hz]

/-- The bytes that a slice shows. -/
def Bytes (w : World) (a : Option Addr) (len : Nat) : Prop := len = 0 ∨ ∃ b o, a = some ⟨b, o, none⟩ ∧ b < w.heap.size ∧ ∀ i, i < len → ∃ x : Nat, x < 256 ∧ w.cell? ⟨b, o + i, none⟩ = some (.int .u8 x)

def OpenPost (w : World) (e : Ending) (w' : World) : Prop := e = .returned (.pointer (some ⟨w.heap.size, 0, none⟩)) ∧ Below w.heap.size w w' ∧ Rd w' w.heap.size 0

theorem open_rd {w : World} {a : Option Addr} {len m cap : Nat} (h : Bytes w a len) (hm : m ≤ len) (h2 : m ≤ 2000) : Rd (w.alloc (.cells #[.slice a m cap, .int .i64 0] 69)) w.heap.size 0 := by
  refine ⟨by simp, by simp, by simp, ⟨a, m, cap, by simp, h2, ?_⟩⟩
  rcases h with h | ⟨b, o, e, hb, h⟩
  · exact .inl (by omega)
  · refine .inr ⟨b, o, e, hb, fun i hi => ?_⟩
    obtain ⟨x, hx, hc⟩ := h i (by omega)
    exact ⟨x, hx, by rw [World.cell?_alloc_lt _ _ _ hb]; exact hc⟩

set_option maxHeartbeats 400000 in
theorem l6Open_any (a : Option Addr) (len cap : Nat) (w : World) (hby : Bytes w a len) (hlen : len ≤ cap) :
    Calls Tryz.prog 11 #[.slice a len cap] w (OpenPost w) := by
  by_cases h : 2000 < len
  · rcases hby with hby | ⟨b, o, rfl, hb, hby⟩
    · omega
    have hr := open_rd (m := 2000) (cap := cap) (.inr ⟨b, o, rfl, hb, hby⟩) (by omega) (by omega)
    have HR := Lib.hid hr
    clear hr hby
    go_enter Tryz.func11, Tryz.ntmps11
    go_wp2_with fail
    go_ret
    exact ⟨rfl, (Below.refl _ _).alloc (Nat.le_refl _) _, HR.out⟩
  · have hr := open_rd (m := len) (cap := cap) hby (by omega) (by omega)
    have HR := Lib.hid hr
    clear hr hby
    go_enter Tryz.func11, Tryz.ntmps11
    go_wp2_with fail
    go_ret
    exact ⟨rfl, (Below.refl _ _).alloc (Nat.le_refl _) _, HR.out⟩
end Go.Proofs.YtiinmlagcbjloaaGreat
