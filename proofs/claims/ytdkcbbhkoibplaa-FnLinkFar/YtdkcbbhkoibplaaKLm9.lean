/- Several texts in one: MT0, SP2, LK0, Mix2, Mix3, TY. -/
import Derived.Test.YtdkcbbhkoibplaaKLm5
import Derived.Test.YtdkcbbhkoibplaaKLm8
import Derived.Test.YtdkcbbhkoibplaaKLm3
import Derived.Test.YtdkcbbhkoibplaaKLm1

/-! MT0: Matching as plain data: what a pattern binds. Definitions and plain lemmas. -/
namespace Go.Proofs.Ytdkcbbhkoibplaa
open Go.RowKit Go.Deep

/-- Terms of a row without marks of where they lie. -/
def Zf (k : Fo) : Prop := fer k = k
theorem Zf.nil : Zf .nil := rfl
theorem zf_node {x y : Nat} {p : Int × Int} {k r : Fo} : Zf (.node x y p k r) ↔ x = 0 ∧ y = 0 ∧ Zf k ∧ Zf r := by
  simp only [Zf, fer, BT.node.injEq, true_and]
  constructor
  · rintro ⟨h1, h2, h3, h4⟩; exact ⟨h1.symm, h2.symm, h3, h4⟩
  · rintro ⟨h1, h2, h3, h4⟩; exact ⟨h1.symm, h2.symm, h3, h4⟩
theorem fer_fer : ∀ k : Fo, fer (fer k) = fer k
  | .nil => rfl
  | .node _ _ _ k r => by simp only [fer, fer_fer k, fer_fer r]
theorem fer_sz : ∀ k : Fo, fsz (fer k) = fsz k
  | .nil => rfl
  | .node _ _ _ k r => by simp only [fer, fsz, fer_sz k, fer_sz r]
theorem sv_ladd {b : Bd} : ∀ {bs : List Bd}, sv bs b.1 = none → ∀ v, sv (ladd bs b) v = if b.1 = v then some b.2 else sv bs v
  | [], _, v => rfl
  | x :: r, h, v => by
    simp only [sv] at h
    by_cases e : x.1 = b.1
    · rw [if_pos e] at h; cases h
    · rw [if_neg e] at h
      simp only [ladd]
      by_cases hlt : b.1 < x.1
      · rw [if_pos hlt]; rfl
      · rw [if_neg hlt]
        simp only [sv]
        rw [sv_ladd h v]
        by_cases e2 : x.1 = v
        · rw [if_pos e2, if_neg (fun e' => e (e2.trans e'.symm))]; simp [e2]
        · rw [if_neg e2, if_neg e2]

/-- What a variable of a pattern binds. -/
def mtV (bs : List Bd) (x : Int) (t : Int × Int × Fo) : Option (List Bd) :=
  match sv bs x with
  | some u => if teq u.1 u.2.1 u.2.2 t.1 t.2.1 t.2.2 = true then some bs else none
  | none => some (ladd bs (x, t))
/-- What patterns of a row bind. -/
def fmt : List Bd → Fo → Fo → Option (List Bd)
  | bs, .nil, .nil => some bs
  | bs, .node _ _ p k r, .node _ _ q l m => (if p.1 = 0 then mtV bs p.2 (q.1, q.2, l) else if p.1 = q.1 then fmt bs k l else none).bind fun b1 => fmt b1 r m
  | _, _, _ => none
/-- What a pattern binds. -/
def tmt (bs : List Bd) (s v : Int) (k : Fo) (s' v' : Int) (k' : Fo) : Option (List Bd) := if s = 0 then mtV bs v (s', v', k') else if s = s' then fmt bs k k' else none
theorem fmt_node (bs : List Bd) (x y : Nat) (p : Int × Int) (k r : Fo) (x' y' : Nat) (q : Int × Int) (l m : Fo) : fmt bs (.node x y p k r) (.node x' y' q l m) = (tmt bs p.1 p.2 k q.1 q.2 l).bind fun b1 => fmt b1 r m := rfl

theorem mtV_cases {bs b1 : List Bd} {x : Int} {t : Int × Int × Fo} (h : mtV bs x t = some b1) : (∃ u, sv bs x = some u ∧ teq u.1 u.2.1 u.2.2 t.1 t.2.1 t.2.2 = true ∧ b1 = bs) ∨ (sv bs x = none ∧ b1 = ladd bs (x, t)) := by
  unfold mtV at h
  cases hs : sv bs x with
  | none => rw [hs] at h; exact .inr ⟨rfl, (Option.some.inj h).symm⟩
  | some u =>
    rw [hs] at h
    dsimp only at h
    split at h
    · rename_i he; exact .inl ⟨u, rfl, he, (Option.some.inj h).symm⟩
    · cases h
/-- What is bound is a part of the term. -/
def Bof (bs : List Bd) (M : Nat) : Prop := ∀ x t, sv bs x = some t → okN t.1 t.2.1 (flen t.2.2) = true ∧ fok t.2.2 = true ∧ fsz t.2.2 ≤ M
theorem Bof.nil (M : Nat) : Bof [] M := fun _ _ h => by simp [sv] at h
theorem mtV_of {bs b1 : List Bd} {x : Int} {t : Int × Int × Fo} {M : Nat} (h : mtV bs x t = some b1) (hb : Bof bs M) (h1 : okN t.1 t.2.1 (flen t.2.2) = true) (h2 : fok t.2.2 = true) (h3 : fsz t.2.2 ≤ M) : Bof b1 M := by
  rcases mtV_cases h with ⟨u, hs, he, rfl⟩ | ⟨hs, rfl⟩
  · exact hb
  · intro y u hu
    rw [sv_ladd (b := (x, t)) hs] at hu
    split at hu
    · obtain rfl := Option.some.inj hu; exact ⟨h1, h2, h3⟩
    · exact hb y u hu
theorem fmt_of {M : Nat} : ∀ (k l : Fo) (bs bs' : List Bd), fmt bs k l = some bs' → Bof bs M → fok l = true → fsz l ≤ M → Bof bs' M
  | .nil, .nil, bs, bs', h, ha, _, _ => by obtain rfl := Option.some.inj h; exact ha
  | .nil, .node _ _ _ _ _, _, _, h, _, _, _ => by simp [fmt] at h
  | .node _ _ _ _ _, .nil, _, _, h, _, _, _ => by simp [fmt] at h
  | .node x' y' p k r, .node _ _ q l m, bs, bs', h, ha, hol, hM => by
    simp only [fok, Bool.and_eq_true] at hol
    simp only [fsz] at hM
    rw [fmt_node] at h
    obtain ⟨b1, h1, h2⟩ := Option.bind_eq_some_iff.1 h
    unfold tmt at h1
    refine fmt_of r m b1 bs' h2 ?_ hol.2 (by omega)
    by_cases e : p.1 = 0
    · rw [if_pos e] at h1
      exact mtV_of h1 ha hol.1.1 hol.1.2 (by dsimp only; omega)
    · rw [if_neg e] at h1
      split at h1
      · exact fmt_of k l bs b1 h1 ha hol.1.2 (by omega)
      · cases h1
theorem tmt_of {bs bs' : List Bd} {s v : Int} {k : Fo} {s' v' : Int} {k' : Fo} {M : Nat} (h : tmt bs s v k s' v' k' = some bs') (ha : Bof bs M) (h1 : okN s' v' (flen k') = true) (h2 : fok k' = true) (h3 : fsz k' ≤ M) : Bof bs' M := by
  unfold tmt at h
  by_cases e : s = 0
  · rw [if_pos e] at h; exact mtV_of h ha h1 h2 h3
  · rw [if_neg e] at h
    split at h
    · exact fmt_of k k' bs bs' h ha h2 h3
    · cases h
theorem mtV_len {bs b1 : List Bd} {x : Int} {t : Int × Int × Fo} (h : mtV bs x t = some b1) : b1.length ≤ bs.length + 1 := by
  rcases mtV_cases h with ⟨u, hs, he, rfl⟩ | ⟨hs, rfl⟩
  · omega
  · rw [ladd_len]; omega
theorem fmt_blen : ∀ (k l : Fo) (bs bs' : List Bd), fmt bs k l = some bs' → bs'.length ≤ bs.length + fsz k
  | .nil, .nil, bs, bs', h => by obtain rfl := Option.some.inj h; omega
  | .nil, .node _ _ _ _ _, _, _, h => by simp [fmt] at h
  | .node _ _ _ _ _, .nil, _, _, h => by simp [fmt] at h
  | .node x' y' p k r, .node _ _ q l m, bs, bs', h => by
    rw [fmt_node] at h
    obtain ⟨b1, h1, h2⟩ := Option.bind_eq_some_iff.1 h
    unfold tmt at h1
    have := fmt_blen r m b1 bs' h2
    simp only [fsz]
    by_cases e : p.1 = 0
    · rw [if_pos e] at h1
      have := mtV_len h1
      omega
    · rw [if_neg e] at h1
      split at h1
      · have := fmt_blen k l bs b1 h1
        omega
      · cases h1
theorem tmt_blen {bs bs' : List Bd} {s v : Int} {k : Fo} {s' v' : Int} {k' : Fo} (h : tmt bs s v k s' v' k' = some bs') : bs'.length ≤ bs.length + (1 + fsz k) := by
  unfold tmt at h
  by_cases e : s = 0
  · rw [if_pos e] at h; have := mtV_len h; omega
  · rw [if_neg e] at h
    split at h
    · have := fmt_blen k k' bs bs' h; omega
    · cases h
/-- Row by row. -/
theorem fmt_step {bs : List Bd} {k l : Fo} {j x y x' y' : Nat} {s v s' v' : Int} {kk kk' : Fo} (h : fdrop j k = .node x y (s, v) kk (fdrop (j + 1) k)) (h' : fdrop j l = .node x' y' (s', v') kk' (fdrop (j + 1) l)) : fmt bs (fdrop j k) (fdrop j l) = (tmt bs s v kk s' v' kk').bind fun b1 => fmt b1 (fdrop (j + 1) k) (fdrop (j + 1) l) := by
  rw [h, h', fmt_node]

end Go.Proofs.Ytdkcbbhkoibplaa

/-! SP2: - The specification's SubstOk. -/
namespace Go.Proofs.Ytdkcbbhkoibplaa
open Go.RowKit Go.Deep

theorem sok_len {room : Int} : ∀ (bs : List Bd) (last : Int), last < 12 → sokFrom room last bs = true → last + bs.length < 12
  | [], _, h, _ => by simpa using h
  | x :: r, last, _, hs => by
    simp only [sokFrom, Bool.and_eq_true, decide_eq_true_eq] at hs
    have := sok_len r x.1 hs.2.2.1 hs.2.2.2
    simp only [List.length_cons]
    omega
theorem drop_bd2 {bs : List Bd} {j : Nat} {x : Bd} (h : bs[j]? = some x) : bs.drop j = x :: bs.drop (j + 1) := by
  obtain ⟨hj, rfl⟩ := List.getElem?_eq_some_iff.1 h
  exact List.drop_eq_getElem_cons hj

end Go.Proofs.Ytdkcbbhkoibplaa

/-! LK0: Steps of a proof as plain data: what a link makes of a term, where a list of links leads. Definitions and plain lemmas. -/
namespace Go.Proofs.Ytdkcbbhkoibplaa
open Go.RowKit Go.Deep

/-- A link: the equation, whether back, the place, what variables stand for. -/
abbrev Lk := Int × Bool × List Int × List Bd
def sidesR (e : Eqd) (back : Bool) : Tm3 × Tm3 := if back = true then (e.2, e.1) else (e.1, e.2)
def put3 (σ : Int → Option Tm3) (t : Tm3) : Tm3 := tsub σ t.1 t.2.1 t.2.2
/-- What stands at a place being f, it becomes g. -/
def lkAt (t : Tm3) (pl : List Int) (f g : Tm3) : Option Tm3 :=
  match fat t.1 t.2.1 t.2.2 pl with
  | none => none
  | some h => if teq h.1 h.2.1 h.2.2 f.1 f.2.1 f.2.2 = true then
      (match fput t.1 t.2.1 t.2.2 pl g with
        | none => none
        | some out => if okT3 64 out = true then some out else none)
    else none
/-- A link done at a term of a proof, the equations being valid. -/
def lk1 (es : List Eqd) (t : Tm3) (l : Lk) : Option Tm3 :=
  if sok 64 l.2.2.2 = true ∧ 0 ≤ l.1 ∧ l.1 < (es.length : Int) then
    (es[l.1.toNat]?).bind fun e => lkAt t l.2.2.1 (put3 (sv l.2.2.2) (sidesR e l.2.1).1) (put3 (sv l.2.2.2) (sidesR e l.2.1).2)
  else none
def lkR (es : List Eqd) (t : Tm3) (l : Lk) : Option Tm3 := if okEs es = true ∧ okT3 64 t = true then lk1 es t l else none
/-- Links one behind the other. -/
def lkF (es : List Eqd) : Tm3 → List Lk → Option Tm3
  | t, [] => some t
  | t, l :: r => (lk1 es t l).bind fun x => lkF es x r
def prR (es : List Eqd) (t : Tm3) (ls : List Lk) : Option Tm3 := if okEs es = true ∧ okT3 64 t = true ∧ ls.length ≤ 40 then lkF es t ls else none
def t0 : Tm3 := (0, 0, .nil)
/-- What is answered. -/
def ansR (r : Option Tm3) : Tm3 × Bool := match r with
  | some t => (t, true)
  | none => (t0, false)

theorem lkF_append (es : List Eqd) : ∀ (t : Tm3) (l1 l2 : List Lk), lkF es t (l1 ++ l2) = (lkF es t l1).bind fun x => lkF es x l2
  | t, [], l2 => rfl
  | t, l :: r, l2 => by
    simp only [List.cons_append, lkF]
    cases lk1 es t l with
    | none => rfl
    | some x => exact lkF_append es x r l2
theorem lkF_one (es : List Eqd) (t : Tm3) (l : Lk) : lkF es t [l] = lk1 es t l := by
  simp only [lkF]
  cases lk1 es t l <;> rfl
theorem prR_one {es : List Eqd} {t : Tm3} {l : Lk} : prR es t [l] = lkR es t l := by
  unfold prR lkR
  rw [lkF_one]
  by_cases h : okEs es = true ∧ okT3 64 t = true
  · rw [if_pos ⟨h.1, h.2, by simp⟩, if_pos h]
  · rw [if_neg (fun h' => h ⟨h'.1, h'.2.1⟩), if_neg h]

/-- How many leaves. -/
def lvs : Fo → Nat
  | .nil => 0
  | .node _ _ _ .nil r => 1 + lvs r
  | .node _ _ _ (.node x y p k r') r => lvs (.node x y p k r') + lvs r
theorem flen_two {s v : Int} {k : Fo} (h : okN s v (flen k) = true) : flen k ≤ 2 := by
  have := ((okN_iff _ _ _).1 h).1
  unfold ar at this
  split at this
  · omega
  · split at this
    · omega
    · split at this <;> omega
theorem lvs_le : ∀ k : Fo, fok k = true → 2 * lvs k ≤ fsz k + flen k
  | .nil, _ => Nat.zero_le _
  | .node _ _ _ .nil r, h => by
    simp only [fok, Bool.and_eq_true] at h
    have := lvs_le r h.2
    simp only [lvs, fsz, flen]; omega
  | .node _ _ _ (.node x y p k r') r, h => by
    simp only [fok, Bool.and_eq_true] at h
    have h1 := lvs_le r h.2
    have h2 := lvs_le (.node x y p k r') (by simp only [fok, Bool.and_eq_true]; exact h.1.2)
    have h3 := flen_two h.1.1
    simp only [lvs, fsz, flen] at h2 h3 ⊢; omega
theorem fsub_small {σ : Int → Option Tm3} {m : Nat} (hσ : ∀ x t, σ x = some t → fsz t.2.2 ≤ m) : ∀ k : Fo, fok k = true → fsz (fsub σ k) ≤ fsz k + m * lvs k
  | .nil, _ => Nat.zero_le _
  | .node x y p .nil r, h => by
    simp only [fok, Bool.and_eq_true] at h
    have h1 := fsub_small hσ r h.2
    simp only [fsub]
    split
    · split
      · rename_i t ht
        have := hσ _ _ ht
        simp only [fsz, lvs, Nat.mul_add]; omega
      · simp only [fsz, lvs, Nat.mul_add]; omega
    · simp only [fsz, lvs, Nat.mul_add]; omega
  | .node x y p (.node x' y' p' k r') r, h => by
    simp only [fok, Bool.and_eq_true] at h
    have h1 := fsub_small hσ r h.2
    have h2 := fsub_small hσ (.node x' y' p' k r') (by simp only [fok, Bool.and_eq_true]; exact h.1.2)
    have hs : p.1 ≠ 0 := fun e => by
      have := ((okN_iff _ _ _).1 h.1.1).1
      rw [e] at this
      simp [ar, flen] at this
      omega
    rw [fsub, if_neg hs]
    simp only [fsz, lvs, Nat.mul_add] at h2 ⊢; omega
theorem sok_sz {room : Int} : ∀ {bs : List Bd} {last : Int}, sokFrom room last bs = true → ∀ x ∈ bs, okW x.2.1 x.2.2.1 x.2.2.2 room = true
  | [], _, _, _, hx => by cases hx
  | y :: r, last, h, x, hx => by
    simp only [sokFrom, Bool.and_eq_true] at h
    rcases List.mem_cons.1 hx with rfl | hx
    · exact h.1
    · exact sok_sz h.2.2.2 x hx
theorem sv_in : ∀ {bs : List Bd} {v : Int} {t : Tm3}, sv bs v = some t → (v, t) ∈ bs
  | [], _, _, h => by simp [sv] at h
  | x :: r, v, t, h => by
    simp only [sv] at h
    split at h
    · rename_i e
      simp only [Option.some.injEq] at h
      subst h
      subst e
      exact List.mem_cons_self
    · exact List.mem_cons_of_mem _ (sv_in h)
theorem sok_ok {room : Int} {bs : List Bd} (h : sok room bs = true) {x : Int} {t : Tm3} (ht : sv bs x = some t) : okT3 room t = true := sok_sz h _ (sv_in ht)
/-- What is put into an equation's side is not too large for the walks. -/
theorem put3_small {bs : List Bd} (h : sok 64 bs = true) {t : Tm3} (ht : okT3 16 t = true) : fsz (put3 (sv bs) t).2.2 ≤ 1000 := by
  have hσ : ∀ x t, sv bs x = some t → fsz t.2.2 ≤ 63 := fun x u hu => by
    have := ((okW_iff _ _ _ _).1 (sok_ok h hu)).2.2
    omega
  obtain ⟨h1, h2, h3⟩ := (okW_iff _ _ _ _).1 ht
  unfold put3 tsub
  split
  · cases hv : sv bs t.2.1 with
    | none => simp only [Option.getD_none]; omega
    | some u => have := hσ _ _ hv; simp only [Option.getD_some]; omega
  · have a1 := fsub_small hσ t.2.2 h2
    have a2 := lvs_le t.2.2 h2
    have a3 := flen_two h1
    dsimp only
    omega
theorem put3_ok {bs : List Bd} {room : Int} (h : sok room bs = true) {t : Tm3} (h1 : okN t.1 t.2.1 (flen t.2.2) = true) (h2 : fok t.2.2 = true) : okN (put3 (sv bs) t).1 (put3 (sv bs) t).2.1 (flen (put3 (sv bs) t).2.2) = true ∧ fok (put3 (sv bs) t).2.2 = true := by
  have hok : ∀ k : Fo, fok k = true → fok (fsub (sv bs) k) = true := fun k => by
    induction k with
    | nil => intro _; rfl
    | node x y p k r ihk ihr =>
      intro h
      simp only [fok, Bool.and_eq_true] at h
      simp only [fsub]
      split
      · split
        · rename_i t ht
          have := (okW_iff _ _ _ _).1 (sok_ok ‹sok room bs = true› ht)
          simp only [fok, this.1, this.2.1, ihr h.2, Bool.and_self]
        · simp only [fok, h.1.1, h.1.2, ihr h.2, Bool.and_self]
      · simp only [fok, fsub_len, h.1.1, ihk h.1.2, ihr h.2, Bool.and_self]
  unfold put3 tsub
  split
  · cases hv : sv bs t.2.1 with
    | none => exact ⟨h1, h2⟩
    | some u =>
      have := (okW_iff _ _ _ _).1 (sok_ok h hv)
      exact ⟨this.1, this.2.1⟩
  · dsimp only
    rw [fsub_len]
    exact ⟨h1, hok _ h2⟩
theorem sides_ok {es : List Eqd} (h : okEs es = true) {i : Nat} {e : Eqd} (hi : es[i]? = some e) (b : Bool) : okT3 16 (sidesR e b).1 = true ∧ okT3 16 (sidesR e b).2 = true := by
  have := ((okEs_iff es).1 h).2 e (List.mem_of_getElem? hi)
  simp only [okE, Bool.and_eq_true] at this
  unfold sidesR
  split
  · exact ⟨this.2, this.1⟩
  · exact this
/-- A done link leaves a term of a proof. -/
theorem lkAt_ok {t x : Tm3} {pl : List Int} {f g : Tm3} (h : lkAt t pl f g = some x) : okT3 64 x = true := by
  unfold lkAt at h
  split at h
  · cases h
  · split at h
    · split at h
      · cases h
      · split at h
        · rename_i hx
          simp only [Option.some.injEq] at h
          subst h
          exact hx
        · cases h
    · cases h
theorem lk1_ok {es : List Eqd} {t x : Tm3} {l : Lk} (h : lk1 es t l = some x) : okT3 64 x = true := by
  unfold lk1 at h
  split at h
  · obtain ⟨e, _, h⟩ := Option.bind_eq_some_iff.1 h
    exact lkAt_ok h
  · cases h
end Go.Proofs.Ytdkcbbhkoibplaa

/-! Mix3: Regions that draw their order, walked order by order; what only looks is taken first. No condition. -/
namespace Go.Proofs.Ytdkcbbhkoibplaa

section
variable {P : Program} {ops : Array Oper} {Q : Exit → Act → World → Prop} {S : World → Prop}

theorem wp_region_anyT {id : Nat} {a : Act} {w : World} (S : World → Prop) (hm : P.follows .mixedOrders = true) (h : wpAnyT P .any ops (QN Q) S [] ops.size (Array.replicate ops.size false) a w.drew) : (Code.region id ops true).wp P Q a w := by
  refine Code.wp_mono (Q := QN Q) (fun e a w h => by cases e <;> first | exact h | exact h.elim) ?_
  exact wp_region_any hm (wpAny_of_T (S := S) (late := []) _ _ _ _ h)

theorem anyT_look {fuel : Nat} {listed : Array Bool} {i : Nat} {a : Act} {w : World} {o : Oper} (ho : ops[i]? = some o) (hB : (Region.noSelect ops && (Region.ready .any ops listed).contains i && Region.free .any ops listed i) = true) (hS : S w)
    (h : ∀ K : Act → Prop, (∀ a', wpAnyT P .any ops (QN Q) S [] fuel (listed.setIfInBounds i true) a' w → K a') → if Region.wanted o (yielded ops a.tmps) = true then ∃ v, (∀ w, S w → (execOp a.eval o).run P w = .ok (.value v) w) ∧ K (a.put o.dst v) else K (a.put o.dst undef)) :
    wpAnyT P .any ops (QN Q) S [] (fuel + 1) listed a w := by
  simp only [Bool.and_eq_true] at hB
  obtain ⟨⟨h1, h2⟩, h3⟩ := hB
  have := h (fun a' => wpAnyT P .any ops (QN Q) S [] fuel (listed.setIfInBounds i true) a' w) (fun _ h => h)
  split at this
  · rename_i hw
    obtain ⟨v, h4, h5⟩ := this
    exact wpAnyT_first ho (Region.noSelect_spec h1) (fun c a w h => h.elim) (fun j hj => by cases hj) fuel listed a w (Region.free_spec ho h3) (by simpa using h2) (.inl ⟨hw, h4⟩) hS (fun j hj => by cases hj) h5
  · rename_i hw
    exact wpAnyT_first (v := undef) ho (Region.noSelect_spec h1) (fun c a w h => h.elim) (fun j hj => by cases hj) fuel listed a w (Region.free_spec ho h3) (by simpa using h2) (.inr ⟨by simpa using hw, rfl⟩) hS (fun j hj => by cases hj) this

theorem anyT_op {fuel : Nat} {listed : Array Bool} {i : Nat} {a : Act} {w : World} {o : Oper} (ho : ops[i]? = some o)
    (h : ∀ K : Act → World → Prop, (∀ a' w', S w' → wpAnyT P .any ops Q S [] fuel (listed.setIfInBounds i true) a' w' → K a' w') → if Region.wanted o (yielded ops a.tmps) = true then o.wp P a w K Q else K (a.put o.dst undef) w) :
    wpOp P ops Q i (fun a' w' => ((∃ j ∈ ([] : List Nat), (listed.setIfInBounds i true).getD j false = true) ∨ S w') ∧ wpAnyT P .any ops Q S [] fuel (listed.setIfInBounds i true) a' w') a w := by
  have := h (fun a' w' => ((∃ j ∈ ([] : List Nat), (listed.setIfInBounds i true).getD j false = true) ∨ S w') ∧ wpAnyT P .any ops Q S [] fuel (listed.setIfInBounds i true) a' w') (fun _ _ h1 h2 => ⟨.inr h1, h2⟩)
  unfold wpOp
  simp only [ho]
  split at this
  · rename_i hw; rw [if_pos hw]; exact .inl this
  · rename_i hw; rw [if_neg hw]; exact this

/-- One operation may come up. -/
theorem anyT_one {fuel : Nat} {listed : Array Bool} {i : Nat} {a : Act} {w : World} {o : Oper} (hB : Region.ready .any ops listed = [i]) (ho : ops[i]? = some o)
    (h : ∀ K : Act → World → Prop, (∀ a' w', S w' → wpAnyT P .any ops (QN Q) S [] fuel (listed.setIfInBounds i true) a' w' → K a' w') → if Region.wanted o (yielded ops a.tmps) = true then o.wp P a w K (QN Q) else K (a.put o.dst undef) w) :
    wpAnyT P .any ops (QN Q) S [] (fuel + 1) listed a w := by
  refine ⟨fun h0 => (by rw [hB] at h0; cases h0), fun k hk => ?_⟩
  rw [hB] at hk
  simp only [List.mem_singleton] at hk
  subst hk
  exact anyT_op ho h
/-- One of two may come up. -/
theorem anyT_two {fuel : Nat} {listed : Array Bool} {i j : Nat} {a : Act} {w : World} {o o' : Oper} (hB : Region.ready .any ops listed = [i, j]) (ho : ops[i]? = some o) (ho' : ops[j]? = some o')
    (h : ∀ K : Act → World → Prop, (∀ a' w', S w' → wpAnyT P .any ops (QN Q) S [] fuel (listed.setIfInBounds i true) a' w' → K a' w') → if Region.wanted o (yielded ops a.tmps) = true then o.wp P a w K (QN Q) else K (a.put o.dst undef) w)
    (h' : ∀ K : Act → World → Prop, (∀ a' w', S w' → wpAnyT P .any ops (QN Q) S [] fuel (listed.setIfInBounds j true) a' w' → K a' w') → if Region.wanted o' (yielded ops a.tmps) = true then o'.wp P a w K (QN Q) else K (a.put o'.dst undef) w) :
    wpAnyT P .any ops (QN Q) S [] (fuel + 1) listed a w := by
  refine ⟨fun h0 => (by rw [hB] at h0; cases h0), fun k hk => ?_⟩
  rw [hB] at hk
  simp only [List.mem_cons, List.not_mem_nil, or_false] at hk
  rcases hk with rfl | rfl
  · exact anyT_op ho h
  · exact anyT_op ho' h'
theorem anyT_done {listed : Array Bool} {a : Act} {w : World} (hB : Region.ready .any ops listed = []) (h : Q .normal a w) : wpAnyT P .any ops (QN Q) S [] 0 listed a w := ⟨hB, h⟩
end

/-- Cells that a store elsewhere leaves. -/
theorem seen_set {l : List (Addr × Value)} {w : World} (h : ∀ p, p ∈ l → w.cell? p.1 = some p.2) {n : Nat} (hn : ∀ p, p ∈ l → p.1.block ≠ n) (i : Nat) (x : Value) : ∀ p, p ∈ l → (w.setCell ⟨n, i, none⟩ x).cell? p.1 = some p.2 := fun p hp => by
  rw [World.cell?_setCell_other _ _ _ _ (by intro e; exact hn p hp (congrArg Addr.block e).symm)]
  exact h p hp
end Go.Proofs.Ytdkcbbhkoibplaa

/-! TY: Regions that draw their order, walked without a look at the order: each operation's result is of a kind, which a later step leaves. No condition. -/
namespace Go.Proofs.Ytdkcbbhkoibplaa

section
variable {P : Program} {ops : Array Oper} {Q : Exit → Act → World → Prop}

/-- What the form of the region must be: edges lead back, no two results in one place, each in its bounds. -/
def tyForm (ops : Array Oper) (n : Nat) : Bool :=
  (List.range ops.size).all fun i => match ops[i]? with
    | some o => (o.after.all fun e => !Region.binds .any e || decide (e.on < i)) && (match o.dst with | some d => decide (d < n) | none => true) &&
        ((List.range ops.size).all fun j => decide (j = i) || match ops[j]?, o.dst with | some oj, some d => !(oj.dst == some d) | _, _ => true)
    | none => true

theorem tyForm_at {n : Nat} (h : tyForm ops n = true) {i : Nat} {o : Oper} (hi : ops[i]? = some o) :
    (∀ e ∈ o.after, Region.binds .any e = true → e.on < i) ∧ (∀ d, o.dst = some d → d < n) ∧ (∀ (j : Nat) (oj : Oper) (d : Nat), ops[j]? = some oj → j ≠ i → o.dst = some d → oj.dst ≠ some d) := by
  have hlt : i < ops.size := (Array.getElem?_eq_some_iff.1 hi).1
  have := List.all_eq_true.1 h i (List.mem_range.2 hlt)
  rw [hi] at this
  simp only [Bool.and_eq_true] at this
  obtain ⟨⟨h1, h2⟩, h3⟩ := this
  refine ⟨fun e he hb => ?_, fun d hd => ?_, fun j oj d hj hne hd he => ?_⟩
  · have := Array.all_eq_true'.1 h1 e he
    simpa [hb] using this
  · rw [hd] at h2; simpa using h2
  · have hjl : j < ops.size := (Array.getElem?_eq_some_iff.1 hj).1
    have := List.all_eq_true.1 h3 j (List.mem_range.2 hjl)
    rw [hj, hd] at this
    simp [hne, he] at this

theorem ready_all {listed : Array Bool} (hf : ∀ (i : Nat) (o : Oper), ops[i]? = some o → ∀ e ∈ o.after, Region.binds .any e = true → e.on < i) (h : Region.ready .any ops listed = []) : ∀ i, i < ops.size → listed.getD i true = true := by
  intro i
  induction i using Nat.strongRecOn with
  | _ i ih =>
    intro hi
    cases hl : listed.getD i true with
    | true => rfl
    | false =>
      exfalso
      obtain ⟨o, ho⟩ : ∃ o, ops[i]? = some o := ⟨ops[i], Array.getElem?_eq_getElem hi⟩
      have hm : i ∈ Region.ready .any ops listed := by
        refine mem_ready.2 ⟨hl, o, ho, fun e he hb => ?_⟩
        have hlt := hf i o ho e he hb
        have := ih e.on hlt (by omega)
        rcases Nat.lt_or_ge e.on listed.size with h' | h'
        · simp [h'] at this ⊢; exact this
        · exfalso
          have h2 : listed.getD i true = true := by simp [Array.getElem?_eq_none (show listed.size ≤ i by omega)]
          rw [h2] at hl; cases hl
      rw [h] at hm
      cases hm

/-- Where the region stands. -/
structure TySt (ops : Array Oper) (T : Nat → Value → World → Prop) (S : Array Bool → Act → World → Prop) (a0 : Act) (listed : Array Bool) (a : Act) (w : World) : Prop where
  s : S listed a w
  lsize : listed.size = ops.size
  size : a.tmps.size = a0.tmps.size
  defers : a.defers = a0.defers
  done : ∀ (i : Nat) (o : Oper), ops[i]? = some o → listed.getD i true = true → ∀ d, o.dst = some d → T i (a.tmps.getD d undef) w
  closed : ∀ (i : Nat) (o : Oper), ops[i]? = some o → listed.getD i false = true → ∀ e ∈ o.after, Region.binds .any e = true → listed.getD e.on false = true
  rest : ∀ t, (∀ (i : Nat) (o : Oper), ops[i]? = some o → o.dst ≠ some t) → a.tmps.getD t undef = a0.tmps.getD t undef

theorem set_mono {listed : Array Bool} {i j : Nat} (h : listed.getD j false = true) : (listed.setIfInBounds i true).getD j false = true := by
  simp only [Array.getD_eq_getD_getElem?] at h ⊢
  by_cases e : i = j
  · subst e
    have hlt : i < listed.size := by
      rcases Nat.lt_or_ge i listed.size with h' | h'
      · exact h'
      · rw [Array.getElem?_eq_none h'] at h; cases h
    rw [Array.getElem?_setIfInBounds_self_of_lt hlt]; rfl
  · rwa [Array.getElem?_setIfInBounds_ne e]
theorem set_was {listed : Array Bool} {i j : Nat} (hne : i ≠ j) (h : (listed.setIfInBounds i true).getD j false = true) : listed.getD j false = true := by
  simp only [Array.getD_eq_getD_getElem?] at h ⊢
  rwa [Array.getElem?_setIfInBounds_ne hne] at h
theorem TySt.step {T : Nat → Value → World → Prop} {S : Array Bool → Act → World → Prop} {R : World → World → Prop} (hmono : ∀ i v w w', T i v w → R w w' → T i v w') {a0 a : Act} {listed : Array Bool} {w w' : World} (hform : tyForm ops a0.tmps.size = true) (h : TySt ops T S a0 listed a w) {i : Nat} {o : Oper}
    (hi : ops[i]? = some o) {v : Value} (hS : S (listed.setIfInBounds i true) (a.put o.dst v) w') (hR : R w w') (hT : ∀ d, o.dst = some d → T i v w') (hall : ∀ e ∈ o.after, Region.binds .any e = true → listed.getD e.on false = true) : TySt ops T S a0 (listed.setIfInBounds i true) (a.put o.dst v) w' := by
  obtain ⟨_, hd, hu⟩ := tyForm_at hform hi
  have hget : ∀ t, o.dst ≠ some t → (a.put o.dst v).tmps.getD t undef = a.tmps.getD t undef := fun t ht => by
    cases ho : o.dst with
    | none => rfl
    | some d =>
      have hne : d ≠ t := fun e => ht (by rw [ho, e])
      simp only [Act.put, Array.getD_eq_getD_getElem?]
      rw [Array.getElem?_setIfInBounds_ne hne]
  refine ⟨hS, by simpa using h.lsize, ?_, ?_, fun j oj hj hl d hdj => ?_, fun j oj hj hl e he hb => ?_, fun t ht => ?_⟩
  · cases ho : o.dst <;> simp [Act.put, h.size]
  · cases ho : o.dst <;> simp [Act.put, h.defers]
  · by_cases hji : j = i
    · subst hji
      rw [hi] at hj
      cases hj
      have hlt := hd d hdj
      rw [hdj]
      simp only [Act.put, Array.getD_eq_getD_getElem?]
      rw [Array.getElem?_setIfInBounds_self_of_lt (by rw [h.size]; exact hlt)]
      exact hT d hdj
    · rw [hget d (fun e => hu j oj d hj hji e hdj)]
      refine hmono _ _ _ _ (h.done j oj hj ?_ d hdj) hR
      simp only [Array.getD_eq_getD_getElem?] at hl ⊢
      rwa [Array.getElem?_setIfInBounds_ne (Ne.symm hji)] at hl
  · by_cases hji : j = i
    · subst hji
      rw [hi] at hj
      cases hj
      exact set_mono (hall e he hb)
    · exact set_mono (h.closed j oj hj (set_was (Ne.symm hji) hl) e he hb)
  · rw [hget t (ht i o hi)]
    exact h.rest t ht

theorem count_false_set {listed : Array Bool} {i n : Nat} (h : listed.getD i true = false) (hc : listed.toList.count false ≤ n + 1) : (listed.setIfInBounds i true).toList.count false ≤ n := by
  have hlt : i < listed.size := by
    rcases Nat.lt_or_ge i listed.size with h' | h'
    · exact h'
    · simp [Array.getElem?_eq_none h'] at h
  rw [Array.toList_setIfInBounds, List.count_set (by simpa using hlt)]
  have hv : listed.toList[i]'(by simpa using hlt) = false := by
    simp [hlt] at h
    simpa using h
  rw [hv, if_pos (show (false == false) = true from rfl), if_neg (show ¬ (true == false) = true by decide)]
  omega

theorem ty_getD {listed : Array Bool} {n : Nat} (hs : listed.size = n) (h : ∀ i, i < n → listed.getD i true = true) : ∀ i, i < n → listed.getD i false = true := fun i hi => by
  have := h i hi
  simp [show i < listed.size by omega] at this ⊢
  exact this
theorem ty_true {listed : Array Bool} {i : Nat} (h : listed.getD i false = true) : listed.getD i true = true := by
  simp only [Array.getD_eq_getD_getElem?] at h ⊢
  rcases Nat.lt_or_ge i listed.size with h' | h'
  · simp [h'] at h ⊢; exact h
  · simp [Array.getElem?_eq_none h']
theorem wpAny_typed {T : Nat → Value → World → Prop} {S : Array Bool → Act → World → Prop} {R : World → World → Prop} (hmono : ∀ i v w w', T i v w → R w w' → T i v w') {a0 : Act} (hform : tyForm ops a0.tmps.size = true)
    (hstep : ∀ (i : Nat) (o : Oper), ops[i]? = some o → ∀ (listed : Array Bool) (a : Act) (w : World), TySt ops T S a0 listed a w → listed.getD i true = false → (∀ e ∈ o.after, Region.binds .any e = true → listed.getD e.on true = true) →
      wpOp P ops (QN Q) i (fun a' w' => ∃ v, a' = a.put o.dst v ∧ S (listed.setIfInBounds i true) a' w' ∧ R w w' ∧ ∀ d, o.dst = some d → T i v w') a w)
    (hdone : ∀ (listed : Array Bool) (a : Act) (w : World), TySt ops T S a0 listed a w → (∀ i, i < ops.size → listed.getD i false = true) → Q .normal a w) :
    ∀ (n : Nat) (listed : Array Bool) (a : Act) (w : World), listed.size = ops.size → listed.toList.count false ≤ n → TySt ops T S a0 listed a w → wpAny P .any ops (QN Q) n listed a w := by
  have hf : ∀ (i : Nat) (o : Oper), ops[i]? = some o → ∀ e ∈ o.after, Region.binds .any e = true → e.on < i := fun i o hi => (tyForm_at hform hi).1
  intro n
  induction n with
  | zero =>
    intro listed a w hsz hc hst
    have hall : ∀ i, i < ops.size → listed.getD i true = true := fun i hi => by
      cases hl : listed.getD i true with
      | true => rfl
      | false =>
        exfalso
        have hlt : i < listed.size := by omega
        simp [hlt] at hl
        have : 0 < listed.toList.count false := List.count_pos_iff.2 (by rw [← hl]; exact Array.getElem_mem_toList hlt)
        omega
    refine ⟨?_, hdone listed a w hst (ty_getD hsz hall)⟩
    refine List.eq_nil_iff_forall_not_mem.2 fun i hi => ?_
    obtain ⟨h0, o, ho, _⟩ := mem_ready.1 hi
    rw [hall i (Array.getElem?_eq_some_iff.1 ho).1] at h0
    cases h0
  | succ n ih =>
    intro listed a w hsz hc hst
    refine ⟨fun h => hdone listed a w hst (ty_getD hsz (ready_all hf h)), fun i hi => ?_⟩
    obtain ⟨h0, o, ho, hall⟩ := mem_ready.1 hi
    have hlt : i < ops.size := (Array.getElem?_eq_some_iff.1 ho).1
    refine wpOp_mono (fun a' w' h' => ?_) (hstep i o ho listed a w hst h0 fun e he hb => ?_)
    · obtain ⟨v, rfl, hS, hR, hT⟩ := h'
      exact ih _ _ _ (by simpa using hsz) (count_false_set h0 hc) (hst.step hmono hform ho hS hR hT hall)
    · have h1 := hall e he hb
      rcases Nat.lt_or_ge e.on listed.size with h' | h'
      · simp [h'] at h1 ⊢; exact h1
      · simp [Array.getElem?_eq_none h'] at h1

theorem ty_dep {o : Oper} {listed : Array Bool} (h : ∀ e ∈ o.after, Region.binds .any e = true → listed.getD e.on true = true) {j : Nat} (hj : (o.after.any fun e => Region.binds .any e && decide (e.on = j)) = true) : listed.getD j true = true := by
  obtain ⟨i, hi, he⟩ := Array.any_eq_true.1 hj
  simp only [Bool.and_eq_true, decide_eq_true_eq] at he
  rw [← he.2]
  exact h _ (Array.getElem_mem hi) he.1
theorem TySt.at {T : Nat → Value → World → Prop} {S : Array Bool → Act → World → Prop} {a0 a : Act} {listed : Array Bool} {w : World} (h : TySt ops T S a0 listed a w) {o : Oper} (hd : ∀ e ∈ o.after, Region.binds .any e = true → listed.getD e.on true = true) (j d : Nat)
    (hj : (o.after.any fun e => Region.binds .any e && decide (e.on = j)) = true) (hjd : (ops[j]?).map (·.dst) = some (some d)) : T j ((a.tmps[d]?).getD undef) w := by
  obtain ⟨oj, ho, he⟩ := Option.map_eq_some_iff.1 hjd
  have := h.done j oj ho (ty_dep hd hj) d he
  simpa only [Array.getD_eq_getD_getElem?] using this
theorem TySt.old {T : Nat → Value → World → Prop} {S : Array Bool → Act → World → Prop} {a0 a : Act} {listed : Array Bool} {w : World} (h : TySt ops T S a0 listed a w) (t : Nat) (ht : (ops.all fun o => !(o.dst == some t)) = true) : (a.tmps[t]?).getD undef = (a0.tmps[t]?).getD undef := by
  have := h.rest t fun i o hi he => by
    have h2 := Array.all_eq_true'.1 ht o (Array.mem_of_getElem? hi)
    simp [he] at h2
  simpa only [Array.getD_eq_getD_getElem?] using this
theorem TySt.dep {T : Nat → Value → World → Prop} {S : Array Bool → Act → World → Prop} {a0 a : Act} {listed : Array Bool} {w : World} (h : TySt ops T S a0 listed a w) {o : Oper} (hd : ∀ e ∈ o.after, Region.binds .any e = true → listed.getD e.on true = true) (j : Nat)
    (hj : (o.after.any fun e => Region.binds .any e && decide (e.on = j)) = true) (hjl : j < ops.size) : listed.getD j false = true := by
  have h1 := ty_dep hd hj
  rw [← h.lsize] at hjl
  simp [hjl] at h1 ⊢
  exact h1
/-- At the end. -/
theorem TySt.fin {T : Nat → Value → World → Prop} {S : Array Bool → Act → World → Prop} {a0 a : Act} {listed : Array Bool} {w : World} (h : TySt ops T S a0 listed a w) (hall : ∀ i, i < ops.size → listed.getD i false = true) (j d : Nat) (hjd : (ops[j]?).map (·.dst) = some (some d)) : T j ((a.tmps[d]?).getD undef) w := by
  obtain ⟨oj, ho, he⟩ := Option.map_eq_some_iff.1 hjd
  have := h.done j oj ho (ty_true (hall j (Array.getElem?_eq_some_iff.1 ho).1)) d he
  simpa only [Array.getD_eq_getD_getElem?] using this
/-- What waits for an operation that has not come up has not come up. -/
theorem TySt.no {T : Nat → Value → World → Prop} {S : Array Bool → Act → World → Prop} {a0 a : Act} {listed : Array Bool} {w : World} (h : TySt ops T S a0 listed a w) {i st : Nat} (hun : listed.getD i true = false)
    (hj : (ops[st]?).map (fun o => o.after.any fun e => Region.binds .any e && decide (e.on = i)) = some true) : listed.getD st false = false := by
  obtain ⟨o, ho, he⟩ := Option.map_eq_some_iff.1 hj
  obtain ⟨j, hjl, hje⟩ := Array.any_eq_true.1 he
  simp only [Bool.and_eq_true, decide_eq_true_eq] at hje
  cases hl : listed.getD st false with
  | false => rfl
  | true =>
    have := h.closed st o ho hl _ (Array.getElem_mem hjl) hje.1
    rw [hje.2, listed_no hun] at this
    cases this
theorem wpOp_of {i : Nat} {o : Oper} {K : Act → World → Prop} {a : Act} {w : World} (hi : ops[i]? = some o) (hg : Region.wanted o (yielded ops a.tmps) = true) (h : ∀ K' : Act → World → Prop, (∀ a' w', K a' w' → K' a' w') → o.wp P a w K' Q) : wpOp P ops Q i K a w := by
  unfold wpOp
  simp only [hi, hg, if_true]
  exact .inl (h K fun _ _ h => h)

/-- The region's law. -/
theorem wp_region_typed (T : Nat → Value → World → Prop) (S : Array Bool → Act → World → Prop) (R : World → World → Prop) {id : Nat} {a0 : Act} {w0 : World} (hm : P.follows .mixedOrders = true) (hform : tyForm ops a0.tmps.size = true)
    (hmono : ∀ i v w w', T i v w → R w w' → T i v w') (h0 : S (Array.replicate ops.size false) a0 w0.drew)
    (hstep : ∀ (i : Nat) (o : Oper), ops[i]? = some o → ∀ (listed : Array Bool) (a : Act) (w : World), TySt ops T S a0 listed a w → listed.getD i true = false → (∀ e ∈ o.after, Region.binds .any e = true → listed.getD e.on true = true) →
      wpOp P ops (QN Q) i (fun a' w' => ∃ v, a' = a.put o.dst v ∧ S (listed.setIfInBounds i true) a' w' ∧ R w w' ∧ ∀ d, o.dst = some d → T i v w') a w)
    (hdone : ∀ (listed : Array Bool) (a : Act) (w : World), TySt ops T S a0 listed a w → (∀ i, i < ops.size → listed.getD i false = true) → Q .normal a w) : (Code.region id ops true).wp P Q a0 w0 := by
  refine Code.wp_mono (Q := QN Q) (fun e a w h => by cases e <;> first | exact h | exact h.elim) ?_
  refine wp_region_any hm (wpAny_typed (R := R) hmono hform hstep hdone ops.size _ _ _ (by simp) ?_ ⟨h0, by simp, rfl, rfl, fun i o hi hl => ?_, fun i o hi hl => ?_, fun _ _ => rfl⟩)
  · simp
  · exfalso
    have hlt : i < ops.size := (Array.getElem?_eq_some_iff.1 hi).1
    simp [hlt] at hl
  · exfalso
    have hlt : i < ops.size := (Array.getElem?_eq_some_iff.1 hi).1
    simp [hlt] at hl
/-- What is in a temporary behind a step. -/
theorem put_at {a : Act} {d t : Nat} (v : Value) (hne : d ≠ t) : ((a.put (some d) v).tmps[t]?).getD undef = (a.tmps[t]?).getD undef := by
  simp only [Act.put]
  rw [Array.getElem?_setIfInBounds_ne hne]
theorem put_self {a : Act} {d : Nat} (v : Value) (hlt : d < a.tmps.size) : ((a.put (some d) v).tmps[d]?).getD undef = v := by
  simp only [Act.put]
  rw [Array.getElem?_setIfInBounds_self_of_lt hlt]; rfl
end
end Go.Proofs.Ytdkcbbhkoibplaa
