/- Several texts in one: G0, G1, SHt, T1, OK0. -/
import Derived.Test.YtoafleckcjanaaaKLk12
import Derived.Test.YtoafleckcjanaaaProg
import Derived.Shelf.Strconv.Itoa3
import Derived.Shelf.Strings.OnBuilder
import Derived.Ground.NamesProg
import Derived.Test.YtoafleckcjanaaaKLk11
import Derived.Test.YtoafleckcjanaaaKLk4
import Derived.Test.YtoafleckcjanaaaKLk7
import Derived.Test.YtoafleckcjanaaaKLk6
import Derived.Test.YtoafleckcjanaaaKLk10

/-! G0: The path order on terms, as plain data: it is transitive and irreflexive. Definitions and plain lemmas. -/
namespace Go.Proofs.Ytoafleckcjanaaa

/-- Well-formed terms. -/
inductive Tm
  | var (v : Int)
  | leaf (s : Int)
  | one (t : Tm)
  | two (t u : Tm)

def Tm.size : Tm → Nat
  | .var _ => 1
  | .leaf _ => 1
  | .one t => t.size + 1
  | .two t u => t.size + u.size + 1
def Tm.sign : Tm → Int
  | .var _ => 0
  | .leaf s => s
  | .one _ => 3
  | .two _ _ => 4
def Tm.kids : Tm → List Tm
  | .var _ => []
  | .leaf _ => []
  | .one t => [t]
  | .two t u => [t, u]
theorem Tm.kid_size {s u : Tm} (h : u ∈ s.kids) : u.size < s.size := by
  cases s with
  | var => simp [Tm.kids] at h
  | leaf => simp [Tm.kids] at h
  | one t => simp only [Tm.kids, List.mem_singleton] at h; subst h; simp [Tm.size]
  | two t u' =>
    simp only [Tm.kids, List.mem_cons, List.not_mem_nil, or_false] at h
    rcases h with rfl | rfl <;> simp [Tm.size] <;> omega

variable (rk : Int → Nat)
/-- The path order, by where each sign stands. -/
inductive Gt : Tm → Tm → Prop
  | kid {s t : Tm} : t ∈ s.kids → Gt s t
  | sub {s t u : Tm} : u ∈ s.kids → Gt u t → Gt s t
  | rank {s t : Tm} : s.sign ≠ 0 → t.sign ≠ 0 → s.sign ≠ t.sign → rk s.sign < rk t.sign → (∀ u, u ∈ t.kids → Gt s u) → Gt s t
  | one {a b : Tm} : Gt a b → (∀ u, u ∈ (Tm.one b).kids → Gt (.one a) u) → Gt (.one a) (.one b)
  | fst {a b a' b' : Tm} : Gt a a' → (∀ u, u ∈ (Tm.two a' b').kids → Gt (.two a b) u) → Gt (.two a b) (.two a' b')
  | snd {a b b' : Tm} : Gt b b' → (∀ u, u ∈ (Tm.two a b').kids → Gt (.two a b) u) → Gt (.two a b) (.two a b')

variable {rk}
theorem Gt.trans (N : Nat) : ∀ {s t u : Tm}, s.size + t.size + u.size ≤ N → Gt rk s t → Gt rk t u → Gt rk s u := by
  induction N using Nat.strongRecOn with
  | _ N ih =>
    intro s t u hN h h'
    -- what holds where each argument of t is less than s
    have main : (∀ x, x ∈ t.kids → Gt rk s x) → (∀ y, y ∈ u.kids → Gt rk t y → Gt rk s y) ∧ ∀ x, x ∈ t.kids → Gt rk x u → Gt rk s u := by
      intro hk
      refine ⟨fun y hy hty => ?_, fun x hx hxu => ?_⟩
      · have := Tm.kid_size hy
        exact ih (s.size + t.size + y.size) (by omega) (Nat.le_refl _) h hty
      · have := Tm.kid_size hx
        exact ih (s.size + x.size + u.size) (by omega) (Nat.le_refl _) (hk x hx) hxu
    cases h with
    | kid hm => exact .sub hm h'
    | sub hm hg =>
      have := Tm.kid_size hm
      exact .sub hm (ih _ (by omega) (Nat.le_refl _) hg h')
    | rank h0 h1 hne hr hk =>
      obtain ⟨m1, m2⟩ := main hk
      cases h' with
      | kid hm => exact hk _ hm
      | sub hm hg => exact m2 _ hm hg
      | rank h0' h1' hne' hr' hk' =>
        by_cases e : s.sign = u.sign
        · rw [e] at hr; omega
        · exact .rank h0 h1' e (by omega) fun y hy => m1 y hy (hk' y hy)
      | one hg hk' => exact .rank h0 h1 hne hr fun y hy => m1 y hy (hk' y hy)
      | fst hg hk' => exact .rank h0 h1 hne hr fun y hy => m1 y hy (hk' y hy)
      | snd hg hk' => exact .rank h0 h1 hne hr fun y hy => m1 y hy (hk' y hy)
    | one hg hk =>
      obtain ⟨m1, m2⟩ := main hk
      cases h' with
      | kid hm => exact hk _ hm
      | sub hm hg => exact m2 _ hm hg
      | rank h0' h1' hne' hr' hk' => exact .rank h0' h1' hne' hr' fun y hy => m1 y hy (hk' y hy)
      | one hg' hk' => exact .one (ih _ (by simp [Tm.size] at hN; omega) (Nat.le_refl _) hg hg') fun y hy => m1 y hy (hk' y hy)
    | fst hg hk =>
      obtain ⟨m1, m2⟩ := main hk
      cases h' with
      | kid hm => exact hk _ hm
      | sub hm hg => exact m2 _ hm hg
      | rank h0' h1' hne' hr' hk' => exact .rank h0' h1' hne' hr' fun y hy => m1 y hy (hk' y hy)
      | fst hg' hk' => exact .fst (ih _ (by simp [Tm.size] at hN; omega) (Nat.le_refl _) hg hg') fun y hy => m1 y hy (hk' y hy)
      | snd hg' hk' => exact .fst hg fun y hy => m1 y hy (hk' y hy)
    | snd hg hk =>
      obtain ⟨m1, m2⟩ := main hk
      cases h' with
      | kid hm => exact hk _ hm
      | sub hm hg => exact m2 _ hm hg
      | rank h0' h1' hne' hr' hk' => exact .rank h0' h1' hne' hr' fun y hy => m1 y hy (hk' y hy)
      | fst hg' hk' => exact .fst hg' fun y hy => m1 y hy (hk' y hy)
      | snd hg' hk' => exact .snd (ih _ (by simp [Tm.size] at hN; omega) (Nat.le_refl _) hg hg') fun y hy => m1 y hy (hk' y hy)
theorem Gt.tr {s t u : Tm} (h : Gt rk s t) (h' : Gt rk t u) : Gt rk s u := Gt.trans _ (Nat.le_refl _) h h'
theorem Gt.irrefl (N : Nat) : ∀ {s : Tm}, s.size ≤ N → ¬ Gt rk s s := by
  induction N using Nat.strongRecOn with
  | _ N ih =>
    intro s hN h
    cases h with
    | kid hm => have := Tm.kid_size hm; omega
    | sub hm hg =>
      have := Tm.kid_size hm
      exact ih _ (by omega) (Nat.le_refl _) (hg.tr (.kid hm))
    | rank _ _ hne _ _ => exact hne rfl
    | one hg _ => exact ih _ (by simp [Tm.size] at hN; omega) (Nat.le_refl _) hg
    | fst hg _ => exact ih _ (by simp [Tm.size] at hN; omega) (Nat.le_refl _) hg
    | snd hg _ => exact ih _ (by simp [Tm.size] at hN; omega) (Nat.le_refl _) hg
theorem Gt.ne {s : Tm} : ¬ Gt rk s s := Gt.irrefl _ (Nat.le_refl _)

/-- Some kid is it, or more. -/
def Reach (rk : Int → Nat) (l : List Tm) (t : Tm) : Prop := ∃ u, u ∈ l ∧ (u = t ∨ Gt rk u t)
def All (rk : Int → Nat) (s : Tm) (l : List Tm) : Prop := ∀ u, u ∈ l → Gt rk s u

theorem gt_var {v : Int} {t : Tm} : ¬ Gt rk (.var v) t := by
  intro h
  cases h with
  | kid hm => simp [Tm.kids] at hm
  | sub hm => simp [Tm.kids] at hm
  | rank h0 => exact h0 rfl
theorem gt_before {s t : Tm} (h0 : s.sign ≠ 0) (h1 : t.sign ≠ 0) (hne : s.sign ≠ t.sign) (hr : rk s.sign < rk t.sign) : Gt rk s t ↔ All rk s t.kids :=
  ⟨fun h _ hu => h.tr (.kid hu), fun h => .rank h0 h1 hne hr h⟩
theorem gt_behind {s t : Tm} (hne : s.sign ≠ t.sign) (hr : t.sign = 0 ∨ ¬ rk s.sign < rk t.sign) : Gt rk s t ↔ Reach rk s.kids t := by
  constructor
  · intro h
    cases h with
    | kid hm => exact ⟨_, hm, .inl rfl⟩
    | sub hm hg => exact ⟨_, hm, .inr hg⟩
    | rank _ h1 _ h2 => rcases hr with h | h; exact absurd h h1; exact absurd h2 h
    | one => exact absurd rfl hne
    | fst => exact absurd rfl hne
    | snd => exact absurd rfl hne
  · rintro ⟨u, hu, rfl | h⟩
    · exact .kid hu
    · exact .sub hu h
theorem gt_leaf {s : Int} : ¬ Gt rk (.leaf s) (.leaf s) := Gt.ne
theorem gt_one {a b : Tm} (hne : a ≠ b) : Gt rk (.one a) (.one b) ↔ Gt rk a b := by
  constructor
  · intro h
    cases h with
    | kid hm => simp only [Tm.kids, List.mem_singleton] at hm; subst hm; exact .kid (by simp [Tm.kids])
    | sub hm hg => simp only [Tm.kids, List.mem_singleton] at hm; subst hm; exact hg.tr (.kid (by simp [Tm.kids]))
    | rank _ _ h => exact absurd rfl h
    | one hg => exact hg
  · intro h
    refine .one h fun u hu => ?_
    simp only [Tm.kids, List.mem_singleton] at hu
    subst hu
    exact .sub (by simp [Tm.kids]) h
theorem gt_two_more {a b a' b' : Tm} (h : Gt rk a a') : Gt rk (.two a b) (.two a' b') ↔ Gt rk (.two a b) b' := by
  constructor
  · exact fun h' => h'.tr (.kid (by simp [Tm.kids]))
  · intro h'
    refine .fst h fun u hu => ?_
    simp only [Tm.kids, List.mem_cons, List.not_mem_nil, or_false] at hu
    rcases hu with rfl | rfl
    · exact .sub (by simp [Tm.kids]) h
    · exact h'
theorem gt_two_less {a b a' b' : Tm} (hne : a ≠ a') (h : ¬ Gt rk a a') : Gt rk (.two a b) (.two a' b') ↔ Reach rk [b] (.two a' b') := by
  constructor
  · intro h'
    cases h' with
    | kid hm =>
      simp only [Tm.kids, List.mem_cons, List.not_mem_nil, or_false] at hm
      rcases hm with rfl | rfl
      · exact absurd (.kid (by simp [Tm.kids])) h
      · exact ⟨_, by simp, .inl rfl⟩
    | sub hm hg =>
      simp only [Tm.kids, List.mem_cons, List.not_mem_nil, or_false] at hm
      rcases hm with rfl | rfl
      · exact absurd (hg.tr (.kid (by simp [Tm.kids]))) h
      · exact ⟨_, by simp, .inr hg⟩
    | rank _ _ h' => exact absurd rfl h'
    | fst hg => exact absurd hg h
    | snd => exact absurd rfl hne
  · rintro ⟨u, hu, h'⟩
    simp only [List.mem_singleton] at hu
    subst hu
    rcases h' with rfl | h'
    · exact .kid (by simp [Tm.kids])
    · exact .sub (by simp [Tm.kids]) h'
theorem gt_two_snd {a b b' : Tm} (h : Gt rk b b') : Gt rk (.two a b) (.two a b') := by
  refine .snd h fun u hu => ?_
  simp only [Tm.kids, List.mem_cons, List.not_mem_nil, or_false] at hu
  rcases hu with rfl | rfl
  · exact .kid (by simp [Tm.kids])
  · exact .sub (by simp [Tm.kids]) h
theorem gt_two_not {a b b' : Tm} (hne : b ≠ b') (h : ¬ Gt rk b b') : ¬ Gt rk (.two a b) (.two a b') := by
  intro h'
  have hna : ¬ Gt rk a (.two a b') := fun hg => Gt.ne (hg.tr (.kid (by simp [Tm.kids])))
  cases h' with
  | kid hm =>
    simp only [Tm.kids, List.mem_cons, List.not_mem_nil, or_false] at hm
    rcases hm with hm | hm
    · have := congrArg Tm.size hm; simp [Tm.size] at this; omega
    · rw [← hm] at h; exact h (.kid (by simp [Tm.kids]))
  | sub hm hg =>
    simp only [Tm.kids, List.mem_cons, List.not_mem_nil, or_false] at hm
    rcases hm with rfl | rfl
    · exact hna hg
    · exact h (hg.tr (.kid (by simp [Tm.kids])))
  | rank _ _ h' => exact absurd rfl h'
  | fst hg => exact Gt.ne hg
  | snd hg => exact h hg
end Go.Proofs.Ytoafleckcjanaaa

/-! G1: Terms in memory as terms of the order. Plain lemmas. -/
namespace Go.Proofs.Ytoafleckcjanaaa
open Go.RowKit Go.Deep

def tm1 (s v : Int) (ks : List Tm) : Tm := if s = 0 then .var v else match ks with
  | [] => .leaf s
  | [t] => .one t
  | t :: u :: _ => .two t u
def ftm : Fo → List Tm
  | .nil => []
  | .node _ _ p k r => tm1 p.1 p.2 (ftm k) :: ftm r
def tmOf (s v : Int) (k : Fo) : Tm := tm1 s v (ftm k)

theorem tm_var {v : Int} : tmOf 0 v .nil = .var v := rfl
theorem tm_leaf {s : Int} (h : s = 1 ∨ s = 2) : tmOf s 0 .nil = .leaf s := by rcases h with rfl | rfl <;> rfl
theorem tm_one {x y : Nat} {p : Int × Int} {k : Fo} : tmOf 3 0 (.node x y p k .nil) = .one (tmOf p.1 p.2 k) := rfl
theorem tm_two {x y : Nat} {p : Int × Int} {k : Fo} {x' y' : Nat} {p' : Int × Int} {k' : Fo} : tmOf 4 0 (.node x y p k (.node x' y' p' k' .nil)) = .two (tmOf p.1 p.2 k) (tmOf p'.1 p'.2 k') := rfl
theorem tm_sign {s v : Int} {k : Fo} (h : Shape s v k) : (tmOf s v k).sign = s := by
  cases h with
  | var => rfl
  | leaf _ hs => rw [tm_leaf hs]; rfl
  | one => rfl
  | two => rfl
theorem tm_kids {s v : Int} {k : Fo} (h : Shape s v k) : (tmOf s v k).kids = ftm k := by
  cases h with
  | var => rfl
  | leaf _ hs => rw [tm_leaf hs]; rfl
  | one => rfl
  | two => rfl
theorem ftm_len : ∀ k : Fo, (ftm k).length = flen k
  | .nil => rfl
  | .node _ _ _ _ r => by simp [ftm, flen, ftm_len r]
theorem ftm_at : ∀ (j : Nat) (k : Fo) {x y : Nat} {s v : Int} {kk r : Fo}, fdrop j k = .node x y (s, v) kk r → (ftm k)[j]? = some (tmOf s v kk)
  | 0, .nil, _, _, _, _, _, _, h => by simp [fdrop] at h
  | 0, .node _ _ p k r, x, y, s, v, kk, r', h => by
    simp only [fdrop, BT.node.injEq] at h
    obtain ⟨_, _, rfl, rfl, _⟩ := h
    rfl
  | _ + 1, .nil, _, _, _, _, _, _, h => by simp [fdrop] at h
  | n + 1, .node _ _ _ _ r, _, _, _, _, _, _, h => by
    simp only [fdrop] at h
    simpa [ftm] using ftm_at n r h
theorem ftm_drop : ∀ (j : Nat) (k : Fo), ftm (fdrop j k) = (ftm k).drop j
  | 0, _ => rfl
  | _ + 1, .nil => by simp [fdrop, ftm]
  | n + 1, .node _ _ _ _ r => by simp [fdrop, ftm, ftm_drop n r]
theorem ftm_fer : ∀ k : Fo, ftm (fer k) = ftm k
  | .nil => rfl
  | .node _ _ p k r => by simp only [fer, ftm, ftm_fer k, ftm_fer r]
theorem tm_inj (N : Nat) : ∀ {s v : Int} {k : Fo} {s' v' : Int} {k' : Fo}, Shape s v k → Shape s' v' k' → fsz k ≤ N → tmOf s v k = tmOf s' v' k' → s = s' ∧ v = v' ∧ fer k = fer k' := by
  induction N using Nat.strongRecOn with
  | _ N ih =>
    intro s v k s' v' k' h h' hN he
    have hs := congrArg Tm.sign he
    rw [tm_sign h, tm_sign h'] at hs
    subst hs
    cases h with
    | var =>
      cases h' with
      | var => exact ⟨rfl, by simpa [tm_var] using he, rfl⟩
      | leaf _ hs => rcases hs with h | h <;> omega
    | leaf _ hs =>
      cases h' with
      | var => rcases hs with h | h <;> omega
      | leaf => exact ⟨rfl, rfl, rfl⟩
      | one => rcases hs with h | h <;> omega
      | two => rcases hs with h | h <;> omega
    | one x y p k ho hk =>
      cases h' with
      | leaf _ hs => rcases hs with h | h <;> omega
      | one x' y' p' k' ho' hk' =>
        rw [tm_one, tm_one] at he
        obtain ⟨e1, e2, e3⟩ := ih (fsz k) (by simp [fsz] at hN; omega) (shape_of ho hk) (shape_of ho' hk') (Nat.le_refl _) (Tm.one.inj he)
        exact ⟨rfl, rfl, by simp only [fer]; rw [e3, Prod.ext e1 e2]⟩
    | two x y p k x2 y2 p2 k2 ho hk ho2 hk2 =>
      cases h' with
      | leaf _ hs => rcases hs with h | h <;> omega
      | two x' y' p' k' x2' y2' p2' k2' ho' hk' ho2' hk2' =>
        rw [tm_two, tm_two] at he
        obtain ⟨he1, he2⟩ := Tm.two.inj he
        simp only [fsz] at hN
        obtain ⟨e1, e2, e3⟩ := ih (fsz k) (by omega) (shape_of ho hk) (shape_of ho' hk') (Nat.le_refl _) he1
        obtain ⟨f1, f2, f3⟩ := ih (fsz k2) (by omega) (shape_of ho2 hk2) (shape_of ho2' hk2') (Nat.le_refl _) he2
        exact ⟨rfl, rfl, by simp only [fer]; rw [e3, Prod.ext e1 e2, f3, Prod.ext f1 f2]⟩
theorem tm_teq {s v : Int} {k : Fo} {s' v' : Int} {k' : Fo} (h : Shape s v k) (h' : Shape s' v' k') : teq s v k s' v' k' = true ↔ tmOf s v k = tmOf s' v' k' := by
  constructor
  · intro he
    obtain ⟨rfl, rfl, hf⟩ := teq_iff.1 he
    unfold tmOf
    rw [← ftm_fer k, hf, ftm_fer k']
  · exact fun he => teq_iff.2 (tm_inj _ h h' (Nat.le_refl _) he)
theorem shape_kid {k : Fo} {j x y : Nat} {s' v' : Int} {kk r : Fo} (h : fok k = true) (hd : fdrop j k = .node x y (s', v') kk r) : Shape s' v' kk := by
  have := fok_kid h hd
  exact shape_of this.1 this.2
theorem tm_size {s v : Int} {k : Fo} (N : Nat) : Shape s v k → fsz k ≤ N → (tmOf s v k).size = 1 + fsz k := by
  induction N using Nat.strongRecOn generalizing s v k with
  | _ N ih =>
    intro h hN
    cases h with
    | var => rfl
    | leaf _ hs => rw [tm_leaf hs]; rfl
    | one x y p k ho hk =>
      simp only [fsz] at hN
      rw [tm_one, Tm.size, ih (fsz k) (by omega) (shape_of ho hk) (Nat.le_refl _)]
      simp only [fsz]; omega
    | two x y p k x2 y2 p2 k2 ho hk ho2 hk2 =>
      simp only [fsz] at hN
      rw [tm_two, Tm.size, ih (fsz k) (by omega) (shape_of ho hk) (Nat.le_refl _), ih (fsz k2) (by omega) (shape_of ho2 hk2) (Nat.le_refl _)]
      simp only [fsz]; omega
end Go.Proofs.Ytoafleckcjanaaa

/-! SHt: The contracts of strconv.Itoa and strings.Builder at this program. -/
namespace Go.Proofs
open Go.Shelf
def Try.lays171_ren : Go.Shelf.Ren := ⟨fun | 171 => 149 | 243 => 150 | 246 => 151 | 283 => 152 | 284 => 153 | 285 => 154 | 286 => 155 | 129 => 157 | 317 => 156 | 318 => 158 | 319 => 159 | 320 => 160 | 337 => 161 | 338 => 162 | n => n, fun | 3 => 3 | 9 => 9 | 2 => 2 | 4 => 4 | 171 => 220 | 0 => 0 | 53 => 221 | 37 => 52 | 5 => 5 | 173 => 224 | 212 => 227 | 51 => 207 | 20 => 20 | 213 => 228 | 46 => 230 | 232 => 233 | 233 => 234 | n => n, fun | 17 => 0 | 18 => 1 | 19 => 2 | n => n⟩
theorem Try.lays171 : Go.Proofs.Lays.n171 Try.prog Try.lays171_ren := {
  mixed := by kernel_rfl
  f129 := Try.func157.trans (congrArg some (by kernel_rfl))
  f171 := Try.func149.trans (congrArg some (by kernel_rfl))
  f243 := Try.func150.trans (congrArg some (by kernel_rfl))
  f246 := Try.func151.trans (congrArg some (by kernel_rfl))
  f283 := Try.func152.trans (congrArg some (by kernel_rfl))
  f284 := Try.func153.trans (congrArg some (by kernel_rfl))
  f285 := Try.func154.trans (congrArg some (by kernel_rfl))
  f286 := Try.func155.trans (congrArg some (by kernel_rfl))
  f317 := Try.func156.trans (congrArg some (by kernel_rfl))
  f318 := Try.func158.trans (congrArg some (by kernel_rfl))
  f319 := Try.func159.trans (congrArg some (by kernel_rfl))
  f320 := Try.func160.trans (congrArg some (by kernel_rfl))
  f337 := Try.func161.trans (congrArg some (by kernel_rfl))
  f338 := Try.func162.trans (congrArg some (by kernel_rfl))
  t0 := Try.underlying0
  a0 := Try.isAgg0
  z0 := Try.sizeOf0
  v0 := Try.zeroValue0
  t2 := Try.underlying2
  a2 := Try.isAgg2
  z2 := Try.sizeOf2
  v2 := Try.zeroValue2
  t3 := Try.underlying3
  a3 := Try.isAgg3
  z3 := Try.sizeOf3
  v3 := Try.zeroValue3
  t4 := Try.underlying4
  a4 := Try.isAgg4
  z4 := Try.sizeOf4
  v4 := Try.zeroValue4
  t5 := Try.underlying5
  a5 := Try.isAgg5
  z5 := Try.sizeOf5
  v5 := Try.zeroValue5
  t9 := Try.underlying9
  a9 := Try.isAgg9
  z9 := Try.sizeOf9
  v9 := Try.zeroValue9
  t20 := Try.underlying20
  a20 := Try.isAgg20
  z20 := Try.sizeOf20
  v20 := Try.zeroValue20
  t37 := Try.underlying52
  a37 := Try.isAgg52
  z37 := Try.sizeOf52
  v37 := Try.zeroValue52
  t46 := Try.underlying230
  a46 := Try.isAgg230
  z46 := Try.sizeOf230
  v46 := Try.zeroValue230
  t51 := Try.underlying207
  a51 := Try.isAgg207
  z51 := Try.sizeOf207
  v51 := Try.zeroValue207
  t53 := Try.underlying221
  a53 := Try.isAgg221
  z53 := Try.sizeOf221
  v53 := Try.zeroValue221
  t171 := Try.underlying220
  a171 := Try.isAgg220
  z171 := Try.sizeOf220
  v171 := Try.zeroValue220
  t173 := Try.underlying224
  a173 := Try.isAgg224
  z173 := Try.sizeOf224
  v173 := Try.zeroValue224
  t212 := Try.underlying227
  a212 := Try.isAgg227
  z212 := Try.sizeOf227
  v212 := Try.zeroValue227
  t213 := Try.underlying228
  a213 := Try.isAgg228
  z213 := Try.sizeOf228
  t232 := Try.underlying233
  a232 := Try.isAgg233
  z232 := Try.sizeOf233
  v232 := Try.zeroValue233
  t233 := Try.underlying234
  a233 := Try.isAgg234
  z233 := Try.sizeOf234
  v233 := Try.zeroValue234
  g17 := by kernel_rfl
  g18 := by kernel_rfl
  g19 := by kernel_rfl }
def Try.lays156_ren : Go.Shelf.Ren := ⟨fun | 156 => 166 | 165 => 167 | 166 => 168 | 169 => 169 | 240 => 170 | 241 => 171 | 276 => 172 | 277 => 173 | n => n, fun | 31 => 235 | 9 => 9 | 3 => 3 | 4 => 4 | 0 => 0 | 20 => 20 | 72 => 239 | 76 => 243 | 70 => 237 | 37 => 52 | 75 => 242 | 127 => 211 | 164 => 245 | 5 => 5 | 80 => 167 | n => n, fun | n => n⟩
theorem Try.lays156 : Go.Proofs.Lays.n156 Try.prog Try.lays156_ren := {
  mixed := by kernel_rfl
  f156 := Try.func166.trans (congrArg some (by kernel_rfl))
  f165 := Try.func167.trans (congrArg some (by kernel_rfl))
  f166 := Try.func168.trans (congrArg some (by kernel_rfl))
  f169 := Try.func169.trans (congrArg some (by kernel_rfl))
  f240 := Try.func170.trans (congrArg some (by kernel_rfl))
  f241 := Try.func171.trans (congrArg some (by kernel_rfl))
  f276 := Try.func172.trans (congrArg some (by kernel_rfl))
  f277 := Try.func173.trans (congrArg some (by kernel_rfl))
  t0 := Try.underlying0
  a0 := Try.isAgg0
  z0 := Try.sizeOf0
  v0 := Try.zeroValue0
  t3 := Try.underlying3
  a3 := Try.isAgg3
  z3 := Try.sizeOf3
  v3 := Try.zeroValue3
  t4 := Try.underlying4
  a4 := Try.isAgg4
  z4 := Try.sizeOf4
  v4 := Try.zeroValue4
  t9 := Try.underlying9
  a9 := Try.isAgg9
  z9 := Try.sizeOf9
  v9 := Try.zeroValue9
  t20 := Try.underlying20
  a20 := Try.isAgg20
  z20 := Try.sizeOf20
  v20 := Try.zeroValue20
  t31 := Try.underlying235
  a31 := Try.isAgg235
  z31 := Try.sizeOf235
  v31 := Try.zeroValue235
  t37 := Try.underlying52
  a37 := Try.isAgg52
  z37 := Try.sizeOf52
  v37 := Try.zeroValue52
  t70 := Try.underlying237
  a70 := Try.isAgg237
  z70 := Try.sizeOf237
  v70 := Try.zeroValue237
  t72 := Try.underlying239
  a72 := Try.isAgg239
  z72 := Try.sizeOf239
  v72 := Try.zeroValue239
  t75 := Try.underlying242
  a75 := Try.isAgg242
  z75 := Try.sizeOf242
  v75 := Try.zeroValue242
  t76 := Try.underlying243
  a76 := Try.isAgg243
  z76 := Try.sizeOf243
  v76 := Try.zeroValue243
  t127 := Try.underlying211
  a127 := Try.isAgg211
  z127 := Try.sizeOf211
  v127 := Try.zeroValue211
  t164 := Try.underlying245
  a164 := Try.isAgg245
  z164 := Try.sizeOf245
  v164 := Try.zeroValue245 }
end Go.Proofs

/-! T1: The text of a node, and TermText of the program. -/
namespace Go.Proofs
open Go.Shelf
theorem Try.builderExtra156 : Builder.Extra Try.prog Try.lays156_ren where
  sizeBuilder := by kernel_rfl
  liesBuilder := by kernel_rfl
  t5 := Try.underlying5
  a5 := Try.isAgg5
  z5 := Try.sizeOf5
  v5 := Try.zeroValue5
  infoByte := by kernel_rfl
  cellsByte := by kernel_rfl
  sizeByte := by kernel_rfl
  neB5 := by decide
end Go.Proofs

namespace Go.Proofs.Ytoafleckcjanaaa
open Go.RowKit Go.Deep

theorem itoa_any (v : Int) (h0 : 0 ≤ v) (h1 : v < 100) (w : World) :
    Calls Try.prog 149 #[.int .i64 v] w fun e w' => e = .returned (.string (str (Lib.decDigits v.toNat))) ∧ w' = w := by
  obtain ⟨n, rfl⟩ := Int.eq_ofNat_of_zero_le h0
  exact Any.strconv_Itoa_small Try.lays171 n (by omega) w

set_option maxHeartbeats 400000 in
theorem varText_any (v : Int) (h0 : 0 ≤ v) (h1 : v < 100) (w : World) :
    Calls Try.prog 148 #[.int .i64 v] w fun e w' => e = .returned (.string (str (120 :: Lib.decDigits v.toNat))) ∧ w' = w := by
  have hz : (str (Lib.decDigits v.toNat)).size ≤ 2 := by rw [str_size]; exact dec_len (by omega)
  go_enter Try.func148, Try.ntmps148
  go_wp2_with fail
  with_reducible refine (itoa_any v h0 h1 _).mono ?_
  rintro e w2 ⟨rfl, rfl⟩
  go_wp2_with fail
  go_ret
  exact ⟨by rw [show (120 :: Lib.decDigits v.toNat) = [120] ++ Lib.decDigits v.toNat from rfl, ← str_add]; rfl, rfl⟩

theorem join_any (ks : List (List UInt8)) (bk n c : Nat) (w : World) (hnk : n = ks.length) (hcells : ∀ (j : Nat) l, ks[j]? = some l → w.cell? ⟨bk, j, none⟩ = some (.string (str l))) (hbk : bk < w.heap.size) (hn : ks.length ≤ 1000) (hc : ks.length ≤ c) (hl : lens ks ≤ 1000000) :
    Calls Try.prog 166 #[.slice (some ⟨bk, 0, none⟩) n c, .string ⟨#[44]⟩] w fun e w' => e = .returned (.string (str (Lib.join ks [44]))) ∧ Below w.heap.size w w' := by
  subst hnk
  have hm : (ks.map str).map (·.data.toList) = ks := by
    rw [List.map_map]
    exact (List.map_congr_left fun x _ => by simp [str]).trans (List.map_id ks)
  have hj := join_len ks
  have := Any.strings_Join Try.lays156 Try.builderExtra156 bk 0 c (ks.map str) ⟨#[44]⟩ w (fun j x hx => by
    rw [List.getElem?_map] at hx
    cases hk : ks[j]? with
    | none => rw [hk] at hx; cases hx
    | some l => rw [hk] at hx; obtain rfl := Option.some.inj hx; rw [Nat.zero_add]; exact hcells j l hk) hbk (by rw [List.length_map]; omega) (by rw [List.length_map]; exact hc) (by rw [hm]; show (Lib.join ks [44]).length ≤ _; omega)
  rw [hm, List.length_map] at this
  exact this

theorem Try.infoS : ∃ i, Try.prog.info? 9 = some i ∧ i.zero = some (.string ⟨#[]⟩) ∧ i.size = 1 ∧ i.bytes = 16 := by
  have h : (Try.prog.info? 9).map (fun i => (i.zero, i.size, i.bytes)) = some (some (.string ⟨#[]⟩), 1, 16) := by kernel_rfl
  obtain ⟨i, hi, hz⟩ := Option.map_eq_some_iff.1 h
  simp only [Prod.mk.injEq] at hz
  exact ⟨i, hi, hz.1, hz.2.1, hz.2.2⟩
theorem make_strs (n : Nat) (hn : n ≤ 1048576) (w : World) :
    (Instr.makeSlice 235 (.int .i64 (n : Int)) (.int .i64 (n : Int))).run Try.prog w = .ok (.slice (some ⟨w.heap.size, 0, none⟩) n n) (w.alloc (.cells (madeCells #[.string ⟨#[]⟩] n) 9)) := by
  obtain ⟨i, hi, hz, hs, hb⟩ := Try.infoS
  have := run_make (P := Try.prog) w 235 9 i _ Try.underlying235 hi hz .i64 .i64 (n : Int) (n : Int) (by omega) (by omega) (by rw [hb]; omega) (by omega)
  rw [hs] at this
  simpa [Value.cells] using this
theorem strs_made (w : World) (n : Nat) (hn : n ≤ 1048576) : (w.alloc (.cells (madeCells #[.string ⟨#[]⟩] n) 9)).ownsRow w.heap.size 9 1 (.slice (some ⟨w.heap.size, 0, none⟩) n n) n ((List.replicate n []).map fun l => Value.string (str l)) := by
  refine ⟨by simp, .inr ⟨w.heap.size, n, madeCells #[.string ⟨#[]⟩] n, rfl, Nat.le_refl _, heap_alloc_new _ _, Nat.le_refl _, by unfold maxLen; omega, by simp [size_madeCells], ?_⟩⟩
  rw [toList_madeCells_one, List.map_replicate, List.take_of_length_le (by simp)]
  rfl
theorem sign_slice1 (w : World) : (Instr.slice 9 (.string ⟨#[97, 98, 103, 102]⟩) (some (.int .i64 0)) (some (.int .i64 1)) none).run Try.prog w = .ok (.string (str [97])) w := by kernel_rfl
theorem sign_slice2 (w : World) : (Instr.slice 9 (.string ⟨#[97, 98, 103, 102]⟩) (some (.int .i64 1)) (some (.int .i64 2)) none).run Try.prog w = .ok (.string (str [98])) w := by kernel_rfl
theorem sign_slice3 (w : World) : (Instr.slice 9 (.string ⟨#[97, 98, 103, 102]⟩) (some (.int .i64 2)) (some (.int .i64 3)) none).run Try.prog w = .ok (.string (str [103])) w := by kernel_rfl
theorem sign_slice4 (w : World) : (Instr.slice 9 (.string ⟨#[97, 98, 103, 102]⟩) (some (.int .i64 3)) (some (.int .i64 4)) none).run Try.prog w = .ok (.string (str [102])) w := by kernel_rfl
theorem sign_slice {s : Int} (h0 : 1 ≤ s) (h1 : s ≤ 4) (w : World) :
    (Instr.slice 9 (.string ⟨#[97, 98, 103, 102]⟩) (some (.int .i64 (s - 1))) (some (.int .i64 s)) none).run Try.prog w = .ok (.string (str (ltr s))) w := by
  have : s = 1 ∨ s = 2 ∨ s = 3 ∨ s = 4 := by omega
  rcases this with rfl | rfl | rfl | rfl
  · exact sign_slice1 w
  · exact sign_slice2 w
  · exact sign_slice3 w
  · exact sign_slice4 w
theorem cell_lowT {W w2 : World} {q : Addr} {x : Value} (hb : Below W.heap.size W w2) (h : W.cell? q = some x) : w2.cell? q = some x := by
  rw [hb.cell (World.block_lt_of_cell? _ _ h)]; exact h
theorem okN_signs {s v : Int} {n : Nat} (hs : s ≠ 0) (h : okN s v n = true) : 1 ≤ s ∧ s ≤ 4 := by
  have h' := ((okN_iff _ _ _).1 h).1
  unfold ar at h'
  split at h'
  · omega
  · split at h'
    · omega
    · split at h' <;> omega

set_option maxRecDepth 100000 in
set_option maxHeartbeats 1000000 in
theorem symText_any (N : Nat) : ∀ (s : Int) (a : Option Addr) (c : Nat) (k : Fo) (w : World), NSl w 0 w.heap.size a k → s ≠ 0 → okN s 0 (flen k) = true → fok k = true → fsz k ≤ N → N ≤ 1000 →
    Calls Try.prog 165 #[.agg #[.int .i64 s, .slice a (flen k) c]] w fun e w' => e = .returned (.string (str (tx s 0 k))) ∧ Below w.heap.size w w' := by
  induction N using Nat.strongRecOn with
  | _ N ih =>
    intro s a c k w hl hs hokN hok hN hN2
    have hfl := flen_le_sz k
    obtain ⟨hs1, hs4⟩ := okN_signs hs hokN
    have hsl := fun w => sign_slice hs1 hs4 w
    have hshort := fts_short k hok
    have hjl := join_len (fts k)
    have hfl2 := fts_len k
    have hll := ltr_len s
    have HOK := Lib.hid hok
    have HSH := Lib.hid hshort
    have IH := Lib.hid ih
    have HS := Lib.hid hs
    have hz1 : (str (ltr s)).size = 1 := by rw [str_size]; exact hll
    have hz2 : (str (Lib.join (fts k) [44])).size ≤ 100000 := by rw [str_size]; omega
    have hz3 : (str (ltr s ++ [40])).size = 2 := by rw [str_size]; simp [hll]
    have hz4 : (str ((ltr s ++ [40]) ++ Lib.join (fts k) [44])).size ≤ 100002 := by rw [str_size] at hz2 ⊢; simp [hll]; omega
    have HJ1 : Hid (str (ltr s) ++ ⟨#[40]⟩ = str (ltr s ++ [40])) := (str_add _ [40])
    have HJ2 : Hid (str (ltr s ++ [40]) ++ str (Lib.join (fts k) [44]) = str ((ltr s ++ [40]) ++ Lib.join (fts k) [44])) := (str_add _ _)
    have HJ3 : Hid (str ((ltr s ++ [40]) ++ Lib.join (fts k) [44]) ++ ⟨#[41]⟩ = str (((ltr s ++ [40]) ++ Lib.join (fts k) [44]) ++ [41])) := (str_add _ [41])
    clear ih hok hshort hjl hll hs hokN
    by_cases hk0 : flen k = 0
    · have HT := Lib.hid (tx_leaf (v := 0) HS.out hk0)
      have ek : ((flen k : Int) == 0) = true := by simp [hk0]
      clear hl hfl hN hfl2 hk0
      go_enter Try.func165, Try.ntmps165
      go_wp2_with fail
      go_ret
      exact ⟨by rw [HT.out]; rfl, (Below.refl _ _).alloc (Nat.le_refl _) _⟩
    · have HT := Lib.hid (tx_kids (v := 0) HS.out hk0)
      have ek : ((flen k : Int) == 0) = false := by simp; omega
      have hmk := make_strs (flen k) (by omega)
      have HST := Lib.hid (strs_made (w.alloc (.cells #[.int .i64 s, .slice a (flen k) c] 166)) (flen k) (by omega))
      go_enter Try.func165, Try.ntmps165
      go_wp2_with fail
      clear hmk
      go_loopw [25] (fun i wr => ∃ (j : Nat) (ys : List (List UInt8)), j ≤ flen k ∧ i = .int .i64 j ∧ Hid (ys.length = flen k ∧ ∀ q, q < j → ys[q]? = (fts k)[q]?) ∧ Hid (wr.ownsRow (w.heap.size + 1) 9 1 (.slice (some ⟨w.heap.size + 1, 0, none⟩) (flen k) (flen k)) (flen k) (ys.map fun l => Value.string (str l))) ∧ Below (w.heap.size + 1) (w.alloc (.cells #[.int .i64 s, .slice a (flen k) c] 166)) wr) (fun i _ => flen k - (intOf i).toNat)
      case atStart => exact ⟨0, List.replicate (flen k) [], by omega, rfl, ⟨by simp, fun q hq => by omega⟩, by simpa [Hid] using HST.out, (Below.refl _ _).alloc (by simp) _⟩
      case round =>
        clear HST
        obtain ⟨j, ys, hj, rfl, hys, hown, hbl⟩ := hrel
        have hsr := hbl.size
        simp at hsr
        by_cases hlt : j < flen k
        · rcases hl with rfl | ⟨b, o, rfl, hrow⟩
          · simp [flen] at hlt
          obtain ⟨s', v', kk, val, ⟨x, y, hd⟩, _, hbB, hkc, hn⟩ := nrow_at (hrow.below (after_top hbl)) hlt
          have hkN := fsz_kid hd
          have hkok := fok_kid HOK.out hd
          have HAT := Lib.hid (fts_at j k hd)
          have HBL := Lib.hid hbl
          have g1 : (0 : Int) ≤ (j : Int) := by omega
          have g2 : (j : Int) < (flen k : Int) := by omega
          clear hd hrow hbl hsl hz1 hz2 hz3 hz4
          have hcl : ∃ u, wr.cell? ⟨w.heap.size + 1, j, none⟩ = some u := by
            rw [hown.out.cellAt j (by omega)]
            exact ⟨_, List.getElem?_eq_getElem (by simp [hys.out.1, hlt])⟩
          have hfz := hown.out.frozenAt j
          have HFIN : Hid (∀ w2 : World, Below wr.heap.size wr w2 → (∃ u, w2.cell? ⟨w.heap.size + 1, j, none⟩ = some u) ∧ w2.frozen? ⟨w.heap.size + 1, j, none⟩ = false ∧ (∃ ys' : List (List UInt8), Hid (ys'.length = flen k ∧ ∀ q, q < j + 1 → ys'[q]? = (fts k)[q]?) ∧ Hid ((w2.setCell ⟨w.heap.size + 1, j, none⟩ (.string (str (tx s' v' kk)))).ownsRow (w.heap.size + 1) 9 1 (.slice (some ⟨w.heap.size + 1, 0, none⟩) (flen k) (flen k)) (flen k) (ys'.map fun l => Value.string (str l)))) ∧ Below (w.heap.size + 1) (w.alloc (.cells #[.int .i64 s, .slice (some ⟨b, o, none⟩) (flen k) c] 166)) (w2.setCell ⟨w.heap.size + 1, j, none⟩ (.string (str (tx s' v' kk))))) := by
            intro w2 hb2
            have hown2 := own_low hb2 hown.out
            obtain ⟨u, hcl⟩ := hcl
            refine ⟨⟨u, cell_lowT hb2 hcl⟩, hown2.frozenAt j, ⟨ys.set j (tx s' v' kk), ?_, ?_⟩, (HBL.out.trans (hb2.mono hsr)).setCell (by simp) _⟩
            · refine ⟨by rw [List.length_set]; exact hys.out.1, fun q hq => ?_⟩
              by_cases e : q = j
              · subst e
                rw [List.getElem?_set_self (by rw [hys.out.1]; exact hlt), HAT.out]
              · rw [List.getElem?_set_ne (fun h => e h.symm)]
                exact hys.out.2 q (by omega)
            · obtain ⟨hst, _⟩ := hown2.stored j (.string (str (tx s' v' kk)))
              unfold Hid
              rw [List.map_set]
              exact hst
          clear hown hys hcl hfz HAT
          rcases hn with ⟨rfl, rfl, rfl⟩ | ⟨hs', a2, c2, rfl, hn2⟩
          · have hv := ((okN_iff _ _ _).1 hkok.1).2.1 rfl
            clear hkok
            go_wp2_with fail
            refine upon_method 148 (by kernel_rfl) (by kernel_rfl) ?_
            go_simp
            with_reducible refine (varText_any v' hv.1 (by omega) _).mono ?_
            rintro e w2 ⟨rfl, rfl⟩
            obtain ⟨⟨u, hcl⟩, hfz, ⟨ys', hys', hown'⟩, hbl'⟩ := HFIN.out w2 (Below.refl _ _)
            rw [tx_var] at hown' hbl'
            have HBL' := Lib.hid hbl'
            clear HFIN hbl'
            go_wp2_with fail
            go_roundw
            case rel => exact ⟨j + 1, ys', by omega, by go_num, hys', hown', HBL'.out⟩
            case measure => simp [intOf]; omega
          · have hv0 : v' = 0 := ((okN_iff _ _ _).1 hkok.1).2.2 hs'
            subst hv0
            have HKO := Lib.hid hkok
            have HN2 := Lib.hid hn2
            have HS' := Lib.hid hs'
            clear hn2 hkok hs'
            go_wp2_with fail
            refine upon_method 165 (by kernel_rfl) (by kernel_rfl) ?_
            go_simp
            with_reducible refine (IH.out (fsz kk) (by omega) s' a2 c2 kk _ ?_ HS'.out HKO.out.1 HKO.out.2 (Nat.le_refl _) (by omega)).mono ?_
            · exact HN2.out.mono (Nat.le_refl _) (by omega)
            rintro e w2 ⟨rfl, hb2⟩
            obtain ⟨⟨u, hcl⟩, hfz, ⟨ys', hys', hown'⟩, hbl'⟩ := HFIN.out w2 hb2
            have HBL' := Lib.hid hbl'
            clear HFIN hbl' hb2
            go_wp2_with fail
            go_roundw
            case rel => exact ⟨j + 1, ys', by omega, by go_num, hys', hown', HBL'.out⟩
            case measure => simp [intOf]; omega
        · have hje : j = flen k := by omega
          subst hje
          have HE : Hid (ys = fts k) := by
            refine List.ext_getElem? fun q => ?_
            by_cases hq : q < flen k
            · exact hys.out.2 q hq
            · rw [List.getElem?_eq_none (by rw [hys.out.1]; omega), List.getElem?_eq_none (by rw [fts_len]; omega)]
          have HCE : Hid (∀ (q : Nat) l, (fts k)[q]? = some l → wr.cell? ⟨w.heap.size + 1, q, none⟩ = some (.string (str l))) := fun q l hql => by
            have hq := (List.getElem?_eq_some_iff.1 hql).1
            rw [hown.out.cellAt q (by rw [fts_len] at hq; omega), HE.out, List.getElem?_map, hql]
            rfl
          have hgl : w.heap.size + 1 < wr.heap.size := by
            rcases hown.out.2 with ⟨h, _⟩ | ⟨g, cap, cur, hv, _, hg, _⟩
            · cases h
            · simp only [Value.slice.injEq, Option.some.injEq, Addr.mk.injEq] at hv
              obtain ⟨⟨rfl, _⟩, _⟩ := hv
              exact (Array.getElem?_eq_some_iff.1 hg).1
          have HBL := Lib.hid hbl
          clear hys hown hbl
          go_wp2_with fail
          rw [HJ1.out]
          go_wp2_with fail
          with_reducible refine (join_any (fts k) (w.heap.size + 1) (flen k) (flen k) _ hfl2.symm HCE.out hgl (by omega) (by omega) ?_).mono ?_
          · have := HSH.out; omega
          rintro e w2 ⟨rfl, hb2⟩
          have HB2 := Lib.hid (HBL.out.trans (hb2.mono hsr))
          clear hb2 hgl
          go_wp2_with fail
          rw [HJ2.out]
          go_wp2_with fail
          rw [HJ3.out]
          go_wp2_with fail
          go_ret
          exact ⟨by rw [HT.out]; simp, after_top HB2.out⟩
end Go.Proofs.Ytoafleckcjanaaa

/-! OK0: Rankings as plain data: what the program asks of one, and what the specification asks, are the same. -/
namespace Go.Proofs.Ytoafleckcjanaaa
open Go.RowKit Go.Deep

def rkOk (xs : List Int) : Bool := decide (xs.length = 4) && (xs.contains 1 && (xs.contains 2 && (xs.contains 3 && xs.contains 4)))
def RkS (xs : List Int) : Prop := (∀ (i : Nat) (x : Int), xs[i]? = some x → 1 ≤ x ∧ x ≤ 4) ∧ ∀ (i k : Nat) (x y : Int), k < i → xs[k]? = some x → xs[i]? = some y → x ≠ y

theorem rk4 (a b c d : Int) (h1 : a = 1 ∨ b = 1 ∨ c = 1 ∨ d = 1) (h2 : a = 2 ∨ b = 2 ∨ c = 2 ∨ d = 2) (h3 : a = 3 ∨ b = 3 ∨ c = 3 ∨ d = 3) (h4 : a = 4 ∨ b = 4 ∨ c = 4 ∨ d = 4) :
    (1 ≤ a ∧ a ≤ 4) ∧ (1 ≤ b ∧ b ≤ 4) ∧ (1 ≤ c ∧ c ≤ 4) ∧ (1 ≤ d ∧ d ≤ 4) ∧ a ≠ b ∧ a ≠ c ∧ a ≠ d ∧ b ≠ c ∧ b ≠ d ∧ c ≠ d := by
  rcases h1 with h1 | h1 | h1 | h1 <;> rcases h2 with h2 | h2 | h2 | h2 <;> rcases h3 with h3 | h3 | h3 | h3 <;> rcases h4 with h4 | h4 | h4 | h4 <;> omega
theorem rk4' (a b c d n : Int) (hn : 1 ≤ n ∧ n ≤ 4) (ha : 1 ≤ a ∧ a ≤ 4) (hb : 1 ≤ b ∧ b ≤ 4) (hc : 1 ≤ c ∧ c ≤ 4) (hd : 1 ≤ d ∧ d ≤ 4) (h1 : a ≠ b) (h2 : a ≠ c) (h3 : a ≠ d) (h4 : b ≠ c) (h5 : b ≠ d) (h6 : c ≠ d) :
    n = a ∨ n = b ∨ n = c ∨ n = d := by omega
theorem len4 {xs : List Int} (h : xs.length = 4) : ∃ a b c d, xs = [a, b, c, d] := by
  match xs, h with
  | [a, b, c, d], _ => exact ⟨a, b, c, d, rfl⟩

theorem rk_iff {xs : List Int} (h : xs.length = 4) : rkOk xs = true ↔ RkS xs := by
  obtain ⟨a, b, c, d, rfl⟩ := len4 h
  constructor
  · intro hr
    simp only [rkOk, List.contains_eq_mem, List.mem_cons, List.not_mem_nil, or_false, Bool.and_eq_true, decide_eq_true_eq] at hr
    obtain ⟨_, h1, h2, h3, h4⟩ := hr
    obtain ⟨ha, hb, hc, hd, e1, e2, e3, e4, e5, e6⟩ := rk4 a b c d (by omega) (by omega) (by omega) (by omega)
    refine ⟨fun i x hx => ?_, fun i k x y hk hx hy => ?_⟩
    · match i, hx with
      | 0, hx => simp at hx; omega
      | 1, hx => simp at hx; omega
      | 2, hx => simp at hx; omega
      | 3, hx => simp at hx; omega
      | n + 4, hx => simp at hx
    · match i, k, hk, hx, hy with
      | 1, 0, _, hx, hy => simp at hx hy; omega
      | 2, 0, _, hx, hy => simp at hx hy; omega
      | 2, 1, _, hx, hy => simp at hx hy; omega
      | 3, 0, _, hx, hy => simp at hx hy; omega
      | 3, 1, _, hx, hy => simp at hx hy; omega
      | 3, 2, _, hx, hy => simp at hx hy; omega
      | n + 4, _, _, _, hy => simp at hy
  · rintro ⟨h1, h2⟩
    have ha := h1 0 a rfl
    have hb := h1 1 b rfl
    have hc := h1 2 c rfl
    have hd := h1 3 d rfl
    have e1 := h2 1 0 a b (by omega) rfl rfl
    have e2 := h2 2 0 a c (by omega) rfl rfl
    have e3 := h2 3 0 a d (by omega) rfl rfl
    have e4 := h2 2 1 b c (by omega) rfl rfl
    have e5 := h2 3 1 b d (by omega) rfl rfl
    have e6 := h2 3 2 c d (by omega) rfl rfl
    simp only [rkOk, List.contains_eq_mem, List.mem_cons, List.not_mem_nil, or_false, Bool.and_eq_true, decide_eq_true_eq]
    exact ⟨rfl, rk4' a b c d 1 (by omega) ha hb hc hd e1 e2 e3 e4 e5 e6, rk4' a b c d 2 (by omega) ha hb hc hd e1 e2 e3 e4 e5 e6, rk4' a b c d 3 (by omega) ha hb hc hd e1 e2 e3 e4 e5 e6, rk4' a b c d 4 (by omega) ha hb hc hd e1 e2 e3 e4 e5 e6⟩
theorem rk_no {xs : List Int} (h : xs.length ≠ 4) : rkOk xs = false := by simp [rkOk, h]
/-- The numbers from 1 on below j are there. -/
def RkTo (xs : List Int) (j : Int) : Prop := ∀ q, 1 ≤ q → q < j → xs.contains q = true
theorem RkTo.next {xs : List Int} {j : Int} (h : RkTo xs j) (hc : xs.contains j = true) : RkTo xs (j + 1) := fun q h1 h2 => by
  by_cases e : q = j
  · rw [e]; exact hc
  · exact h q h1 (by omega)
theorem rk_all {xs : List Int} (h : xs.length = 4) (ht : RkTo xs 5) : rkOk xs = true := by
  unfold rkOk
  rw [ht 1 (by omega) (by omega), ht 2 (by omega) (by omega), ht 3 (by omega) (by omega), ht 4 (by omega) (by omega), h]
  rfl
theorem rk_miss {xs : List Int} {j : Int} (h0 : 1 ≤ j) (h1 : j ≤ 4) (hc : xs.contains j = false) : rkOk xs = false := by
  have : j = 1 ∨ j = 2 ∨ j = 3 ∨ j = 4 := by omega
  rcases this with rfl | rfl | rfl | rfl <;> simp only [rkOk, hc, Bool.and_false, Bool.false_and]
theorem getD_of {xs : List Int} {j : Nat} (h : j < xs.length) : xs.getD j 0 = xs[j] := by simp [h]
end Go.Proofs.Ytoafleckcjanaaa
