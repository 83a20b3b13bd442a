/- Several texts in one: LO5, S1, S2, S3, V0, V1, S4. -/
import Derived.Test.YtbgjdkpdjclagaaKOrd22
import Derived.Test.YtbgjdkpdjclagaaKOrd15
import Derived.Maps.OwnOps
import Derived.Test.YtbgjdkpdjclagaaKOrd6
import Derived.Laws.OwnMore
import Derived.Test.YtbgjdkpdjclagaaKOrd16
import Derived.Lib.SlicesCompact
import Derived.Test.YtbgjdkpdjclagaaKOrd2

/-! LO5: The path order is closed under what variables stand for, and total on terms without variables: plain. -/
namespace Go.Proofs.Ytbgjdkpdjclagaa
open Go.RowKit Go.Deep

def Tm.subst (σ : Int → Tm) : Tm → Tm
  | .var v => σ v
  | .leaf s => .leaf s
  | .one t => .one (t.subst σ)
  | .two t u => .two (t.subst σ) (u.subst σ)
theorem Tm.subst_sign {σ : Int → Tm} {t : Tm} (h : t.sign ≠ 0) : (t.subst σ).sign = t.sign := by
  cases t with
  | var => exact absurd rfl h
  | leaf => rfl
  | one => rfl
  | two => rfl
theorem Tm.subst_kids {σ : Int → Tm} {t : Tm} (h : t.sign ≠ 0) : (t.subst σ).kids = t.kids.map (Tm.subst σ) := by
  cases t with
  | var => exact absurd rfl h
  | leaf => rfl
  | one => rfl
  | two => rfl
theorem Tm.subst_kid {σ : Int → Tm} {s u : Tm} (h : u ∈ s.kids) : u.subst σ ∈ (s.subst σ).kids := by
  cases s with
  | var => simp [Tm.kids] at h
  | leaf => simp [Tm.kids] at h
  | one t => simp only [Tm.kids, List.mem_singleton] at h; subst h; simp [Tm.subst, Tm.kids]
  | two t t' =>
    simp only [Tm.kids, List.mem_cons, List.not_mem_nil, or_false] at h
    rcases h with rfl | rfl <;> simp [Tm.subst, Tm.kids]
theorem Gt.subst {rk : Int → Nat} {s t : Tm} (σ : Int → Tm) (h : Gt rk s t) : Gt rk (s.subst σ) (t.subst σ) := by
  induction h with
  | kid hm => exact .kid (Tm.subst_kid hm)
  | sub hm _ ih => exact .sub (Tm.subst_kid hm) ih
  | rank h0 h1 hne hlt _ ih =>
    refine .rank (by rw [Tm.subst_sign h0]; exact h0) (by rw [Tm.subst_sign h1]; exact h1) (by rw [Tm.subst_sign h0, Tm.subst_sign h1]; exact hne) (by rw [Tm.subst_sign h0, Tm.subst_sign h1]; exact hlt) fun u hu => ?_
    rw [Tm.subst_kids h1, List.mem_map] at hu
    obtain ⟨u', hu', rfl⟩ := hu
    exact ih u' hu'
  | one _ _ ih1 ih2 =>
    refine .one ih1 fun u hu => ?_
    simp only [Tm.kids, List.mem_singleton] at hu
    subst hu
    exact ih2 _ (by simp [Tm.kids])
  | fst _ _ ih1 ih2 =>
    refine .fst ih1 fun u hu => ?_
    simp only [Tm.kids, List.mem_cons, List.not_mem_nil, or_false] at hu
    rcases hu with rfl | rfl
    · exact ih2 _ (by simp [Tm.kids])
    · exact ih2 _ (by simp [Tm.kids])
  | snd _ _ ih1 ih2 =>
    refine .snd ih1 fun u hu => ?_
    simp only [Tm.kids, List.mem_cons, List.not_mem_nil, or_false] at hu
    rcases hu with rfl | rfl
    · exact ih2 _ (by simp [Tm.kids])
    · exact ih2 _ (by simp [Tm.kids])

/-- No variable. -/
def Tm.ground : Tm → Prop
  | .var _ => False
  | .leaf _ => True
  | .one t => t.ground
  | .two t u => t.ground ∧ u.ground
theorem Tm.ground_kid {s u : Tm} (h : s.ground) (hu : u ∈ s.kids) : u.ground := by
  cases s with
  | var => exact h.elim
  | leaf => simp [Tm.kids] at hu
  | one t => simp only [Tm.kids, List.mem_singleton] at hu; subst hu; exact h
  | two t t' =>
    simp only [Tm.kids, List.mem_cons, List.not_mem_nil, or_false] at hu
    rcases hu with rfl | rfl
    · exact h.1
    · exact h.2
/-- Signs in form: leaves of 1 and 2. -/
def Tm.fine : Tm → Prop
  | .var _ => True
  | .leaf s => s = 1 ∨ s = 2
  | .one t => t.fine
  | .two t u => t.fine ∧ u.fine
theorem Tm.fine_kid {s u : Tm} (h : s.fine) (hu : u ∈ s.kids) : u.fine := by
  cases s with
  | var => simp [Tm.kids] at hu
  | leaf => simp [Tm.kids] at hu
  | one t => simp only [Tm.kids, List.mem_singleton] at hu; subst hu; exact h
  | two t t' =>
    simp only [Tm.kids, List.mem_cons, List.not_mem_nil, or_false] at hu
    rcases hu with rfl | rfl
    · exact h.1
    · exact h.2

/-- Of two terms without variables one is more, or they are the same. -/
theorem Gt.total {rk : Int → Nat} (hinj : ∀ a b : Int, 1 ≤ a → a ≤ 4 → 1 ≤ b → b ≤ 4 → rk a = rk b → a = b) (N : Nat) : ∀ {s t : Tm}, s.size + t.size ≤ N → s.ground → t.ground → s.fine → t.fine → s = t ∨ Gt rk s t ∨ Gt rk t s := by
  have hsg : ∀ {t : Tm}, t.ground → t.fine → 1 ≤ t.sign ∧ t.sign ≤ 4 := fun {t} h1 h2 => by
    cases t with
    | var => exact h1.elim
    | leaf s => rcases h2 with rfl | rfl <;> simp [Tm.sign]
    | one => simp [Tm.sign]
    | two => simp [Tm.sign]
  induction N using Nat.strongRecOn with
  | _ N ih =>
    intro s t hN gs gt fs ft
    -- a kid of one that is the other, or more
    by_cases h1 : ∃ u, u ∈ s.kids ∧ (u = t ∨ Gt rk u t)
    · obtain ⟨u, hu, rfl | h⟩ := h1
      · exact .inr (.inl (.kid hu))
      · exact .inr (.inl (.sub hu h))
    by_cases h2 : ∃ u, u ∈ t.kids ∧ (u = s ∨ Gt rk u s)
    · obtain ⟨u, hu, rfl | h⟩ := h2
      · exact .inr (.inr (.kid hu))
      · exact .inr (.inr (.sub hu h))
    have k1 : ∀ u, u ∈ s.kids → Gt rk t u := fun u hu => by
      have := Tm.kid_size hu
      rcases ih (u.size + t.size) (by omega) (Nat.le_refl _) (Tm.ground_kid gs hu) gt (Tm.fine_kid fs hu) ft with h | h | h
      · exact absurd ⟨u, hu, .inl h⟩ h1
      · exact absurd ⟨u, hu, .inr h⟩ h1
      · exact h
    have k2 : ∀ u, u ∈ t.kids → Gt rk s u := fun u hu => by
      have := Tm.kid_size hu
      rcases ih (u.size + s.size) (by omega) (Nat.le_refl _) (Tm.ground_kid gt hu) gs (Tm.fine_kid ft hu) fs with h | h | h
      · exact absurd ⟨u, hu, .inl h⟩ h2
      · exact absurd ⟨u, hu, .inr h⟩ h2
      · exact h
    have b1 := hsg gs fs
    have b2 := hsg gt ft
    by_cases hs : s.sign = t.sign
    · cases s with
      | var => exact gs.elim
      | leaf a =>
        cases t with
        | var => exact gt.elim
        | leaf b => simp only [Tm.sign] at hs; subst hs; exact .inl rfl
        | one => simp only [Tm.sign] at hs; rcases fs with rfl | rfl <;> omega
        | two => simp only [Tm.sign] at hs; rcases fs with rfl | rfl <;> omega
      | one a =>
        cases t with
        | var => exact gt.elim
        | leaf b => simp only [Tm.sign] at hs; rcases ft with rfl | rfl <;> omega
        | one b =>
          simp only [Tm.size] at hN
          rcases ih (a.size + b.size) (by omega) (Nat.le_refl _) gs gt fs ft with rfl | h | h
          · exact .inl rfl
          · exact .inr (.inl (.one h k2))
          · exact .inr (.inr (.one h k1))
        | two => simp [Tm.sign] at hs
      | two a b =>
        cases t with
        | var => exact gt.elim
        | leaf c => simp only [Tm.sign] at hs; rcases ft with rfl | rfl <;> omega
        | one => simp [Tm.sign] at hs
        | two a' b' =>
          simp only [Tm.size] at hN
          rcases ih (a.size + a'.size) (by omega) (Nat.le_refl _) gs.1 gt.1 fs.1 ft.1 with rfl | h | h
          · rcases ih (b.size + b'.size) (by omega) (Nat.le_refl _) gs.2 gt.2 fs.2 ft.2 with rfl | h | h
            · exact .inl rfl
            · exact .inr (.inl (.snd h k2))
            · exact .inr (.inr (.snd h k1))
          · exact .inr (.inl (.fst h k2))
          · exact .inr (.inr (.fst h k1))
    · rcases Nat.lt_trichotomy (rk s.sign) (rk t.sign) with h | h | h
      · exact .inr (.inl (.rank (by omega) (by omega) hs h k2))
      · exact absurd (hinj _ _ b1.1 b1.2 b2.1 b2.2 h) hs
      · exact .inr (.inr (.rank (by omega) (by omega) (fun e => hs e.symm) h k1))
end Go.Proofs.Ytbgjdkpdjclagaa

/-! S1: substOf: the binds put into a map of nodes. -/
namespace Go.Proofs.Ytbgjdkpdjclagaa
open Go.RowKit Go.Deep Go.Maps

theorem law : Keyed Try.prog 100 := int_keyed (q := .i64) (by kernel_rfl)
theorem underM : Try.prog.underlying 68 = some (.map 100 57) := by kernel_rfl
theorem key_of {x : Int} (h : (Lit.int .i64 x).wf = true) : keyOf Try.prog 100 (.int .i64 x) = some (.int .i64 x) := keyOf_int_mk (by kernel_rfl) h

/-- What stays where cells stay. -/
theorem NRow.keep {w w' : World} {lo B : Nat} (hk : ∀ q x, w.cell? q = some x → w'.cell? q = some x) : ∀ (k : Fo) (b o : Nat), NRow w lo B k b o → NRow w' lo B k b o
  | .nil, _, _, _ => trivial
  | .node _ _ p k r, b, o, ⟨hl, h0, ⟨val, h1, h2⟩, h5⟩ => by
    refine ⟨hl, h0, ⟨val, hk _ _ h1, ?_⟩, NRow.keep hk r b (o + 1) h5⟩
    rcases h2 with h2 | ⟨e, a, c, e2, h3⟩
    · exact .inl h2
    · refine .inr ⟨e, a, c, e2, ?_⟩
      rcases h3 with h3 | ⟨b', o', e3, h3⟩
      · exact .inl h3
      · exact .inr ⟨b', o', e3, NRow.keep hk k b' o' h3⟩
theorem NodeIs.keep {w w' : World} {lo B : Nat} {val : Value} {s v : Int} {k : Fo} (hk : ∀ q x, w.cell? q = some x → w'.cell? q = some x) (h : NodeIs w lo B val s v k) : NodeIs w' lo B val s v k := by
  rcases h with h | ⟨hs, a, c, e, h⟩
  · exact .inl h
  · refine .inr ⟨hs, a, c, e, ?_⟩
    rcases h with h | ⟨b, o, e2, h⟩
    · exact .inl h
    · exact .inr ⟨b, o, e2, h.keep hk⟩
theorem Row.keep {w w' : World} {lo B : Nat} (hk : ∀ q x, w.cell? q = some x → w'.cell? q = some x) : ∀ (k : Fo) (b o : Nat), Row w lo B k b o → Row w' lo B k b o
  | .nil, _, _, _ => trivial
  | .node _ _ p k r, b, o, ⟨hl, h0, h1, h2, ⟨a, c, h3, h4⟩, h5⟩ => by
    refine ⟨hl, h0, hk _ _ h1, hk _ _ h2, ⟨a, c, hk _ _ h3, ?_⟩, Row.keep hk r b (o + 3) h5⟩
    rcases h4 with h4 | ⟨b', o', e, h4⟩
    · exact .inl h4
    · exact .inr ⟨b', o', e, Row.keep hk k b' o' h4⟩
theorem Sl.keep {w w' : World} {lo B : Nat} {a : Option Addr} {k : Fo} (hk : ∀ q x, w.cell? q = some x → w'.cell? q = some x) (h : Sl w lo B a k) : Sl w' lo B a k := by
  rcases h with h | ⟨b, o, e, h⟩
  · exact .inl h
  · exact .inr ⟨b, o, e, h.keep hk⟩
theorem BSl.keep {w w' : World} {lo B : Nat} {a : Option Addr} {bs : List Bd} (hk : ∀ q x, w.cell? q = some x → w'.cell? q = some x) (h : BSl w lo B a bs) : BSl w' lo B a bs := by
  rcases h with h | ⟨b, o, e, h1, h2, h3⟩
  · exact .inl h
  · refine .inr ⟨b, o, e, h1, h2, fun i x hx => ?_⟩
    obtain ⟨a', c', c0, c1, c2, c3, hl⟩ := h3 i x hx
    exact ⟨a', c', hk _ _ c0, hk _ _ c1, hk _ _ c2, hk _ _ c3, hl.keep hk⟩
/-- Cells stay where a map is written. -/
theorem cells_keep {w w' : World} {b : Nat} {n : Nat} {D : DataW Value} (hm : w.ownsMap Try.prog 100 rdV b n D) (hg : w.grownBy w' (some b)) : ∀ q x, w.cell? q = some x → w'.cell? q = some x := fun q x hq => by
  obtain ⟨es, clock, hb, _⟩ := hm
  refine hg.cell hq fun e => ?_
  have : q.block = b := by simpa using e
  unfold World.cell? at hq
  rw [this, hb] at hq
  cases hq

theorem MapIs.start (w : World) : MapIs (w.alloc (.map #[] 0)) w.heap.size [] :=
  ⟨0, .map [], World.ownsMap_made w Try.prog 100 rdV, Nat.zero_le _, fun x _ => ⟨fun _ => rfl, fun s v k h => by simp [sv] at h⟩⟩
theorem MapIs.below {w w' : World} {b : Nat} {bs : List Bd} (h : MapIs w b bs) (hb : Below w.heap.size w w') : MapIs w' b bs := by
  obtain ⟨n, D, hm, hn, hx⟩ := h
  have hlt := hm.lt
  refine ⟨n, D, ?_, hn, fun x hw => ⟨(hx x hw).1, fun s v k hs => ?_⟩⟩
  · obtain ⟨es, clock, h1, h2⟩ := hm
    exact ⟨es, clock, by rw [hb.block b hlt]; exact h1, h2⟩
  · obtain ⟨h1, nv, h2, h3⟩ := (hx x hw).2 s v k hs
    exact ⟨h1, nv, h2, (h3.below hb).mono (Nat.le_refl _) hb.size⟩
/-- One more bind. -/
theorem MapIs.put {w w' : World} {b n : Nat} {D : DataW Value} {bs : List Bd} {x : Int} {nv : Value} {s v : Int} {k : Fo} (hn : n ≤ 12 + bs.length) (hx : ∀ x : Int, (Lit.int .i64 x).wf = true →
    (sv bs x = none → Maps.has D (.int .i64 x) = false) ∧ ∀ s v k, sv bs x = some (s, v, k) → Maps.has D (.int .i64 x) = true ∧ ∃ nv, D.atKey (.int .i64 x) (.held .nilIface) = .held nv ∧ NodeIs w 0 w.heap.size nv s v k)
    (hm : w.ownsMap Try.prog 100 rdV b n D) (hw : w'.ownsMap Try.prog 100 rdV b (n + 1) (D.put (.int .i64 x) (.held nv))) (hg : w.grownBy w' (some b)) (hv : sv bs x = none) (hnv : NodeIs w 0 w.heap.size nv s v k) : MapIs w' b (bs ++ [(x, s, v, k)]) := by
  have hk := cells_keep hm hg
  have hD := (hm.tidy law).isMap
  refine ⟨n + 1, _, hw, by simp; omega, fun y hy => ?_⟩
  rw [sv_snoc (x := (x, s, v, k)) hv]
  by_cases e : x = y
  · subst e
    rw [if_pos rfl]
    refine ⟨fun h => (by cases h), fun s' v' k' h => ?_⟩
    simp only [Option.some.injEq, Prod.mk.injEq] at h
    obtain ⟨rfl, rfl, rfl⟩ := h
    exact ⟨has_put_same hD (by trivial) _, nv, atKey_put_same hD (by trivial) _ _, (hnv.keep hk).mono (Nat.le_refl _) hg.size⟩
  · rw [if_neg (by exact e)]
    have hne : (Lit.int .i64 y) ≠ (Lit.int .i64 x) := by intro h; simp only [Lit.int.injEq, true_and] at h; exact e h.symm
    refine ⟨fun h => ?_, fun s' v' k' h => ?_⟩
    · rw [has_put_other hne]; exact (hx y hy).1 h
    · obtain ⟨h1, nv', h2, h3⟩ := (hx y hy).2 s' v' k' h
      exact ⟨by rw [has_put_other hne]; exact h1, nv', by rw [atKey_put_other hne]; exact h2, (h3.keep hk).mono (Nat.le_refl _) hg.size⟩
end Go.Proofs.Ytbgjdkpdjclagaa

/-! S2: substOf. -/
namespace Go.Proofs.Ytbgjdkpdjclagaa
open Go.RowKit Go.Deep Go.Maps

def SoPost (bs : List Bd) (room : Int) (w : World) (e : Ending) (w' : World) : Prop :=
  Below w.heap.size w w' ∧ ((sok room bs = true ∧ ∃ b, e = .returned (.tuple #[.map (some b), .bool true]) ∧ w.heap.size ≤ b ∧ MapIs w' b bs) ∨ (sok room bs = false ∧ e = .returned (.tuple #[.map none, .bool false])))

theorem drop_bd {bs : List Bd} {j : Nat} {x : Bd} (h : bs[j]? = some x) : bs.drop j = x :: bs.drop (j + 1) := by
  obtain ⟨hj, rfl⟩ := List.getElem?_eq_some_iff.1 h
  exact List.drop_eq_getElem_cons hj

set_option maxRecDepth 100000 in
set_option maxHeartbeats 2000000 in
theorem substOf_any (bs : List Bd) (A : Option Addr) (C : Nat) (room : Int) (w : World) (hb : BSl w 0 w.heap.size A bs) (hl : bs.length ≤ 9223372036854775807) (h1 : 0 ≤ room) (h2 : room ≤ 1000) :
    Calls Try.prog 39 #[.slice A bs.length C, .int .i64 room] w (SoPost bs room w) := by
  have HB := Lib.hid hb
  have HM0 := Lib.hid (MapIs.start w)
  have HL0 : Hid (Below w.heap.size w (w.alloc (.map #[] 0))) := (Below.refl _ _).alloc (Nat.le_refl _) _
  have hmm := @run_makeMap Try.prog
  clear hb
  go_enter Try.func39, Try.ntmps39
  go_wp2_with fail
  go_loopw [7, 15] (fun t i wr => ∃ (j : Nat) (last : Int), t = .int .i64 last ∧ i = .int .i64 j ∧ j ≤ bs.length ∧ -1 ≤ last ∧ (j : Int) ≤ last + 1 ∧ last < 12 ∧ Hid (sok room bs = sokFrom room last (bs.drop j)) ∧ Hid (MapIs wr w.heap.size (bs.take j)) ∧ Hid (Below w.heap.size w wr) ∧ w.heap.size < wr.heap.size ∧ Hid (∀ x, last < x → sv (bs.take j) x = none)) (fun _ i _ => bs.length - (intOf i).toNat)
  case atStart => exact ⟨0, -1, rfl, rfl, Nat.zero_le _, by omega, by omega, by omega, rfl, HM0, HL0, by simp, fun _ _ => rfl⟩
  case round =>
    clear HM0 HL0
    obtain ⟨j, last, rfl, rfl, hj, hl0, hl1, hl2, HS, HM, HLW, hsz, HN⟩ := hrel
    by_cases hlt : j < bs.length
    · obtain ⟨x, hx⟩ : ∃ x, bs[j]? = some x := ⟨bs[j], List.getElem?_eq_getElem hlt⟩
      obtain ⟨xv, s, v, k⟩ := x
      have hbr := HB.out.below HLW.out
      rcases hbr with hbr | ⟨b, o, rfl, _, hbB, hcells⟩
      · subst hbr; simp at hx
      obtain ⟨a', c', c0, c1, c2, c3, hsl⟩ := hcells j _ hx
      dsimp only at c0 c1 c2 c3 hsl
      clear hcells
      have g1 : (0 : Int) ≤ (j : Int) := by omega
      have g2 : (j : Int) < (bs.length : Int) := by omega
      have HX := Lib.hid hx
      have HD := Lib.hid (drop_bd hx)
      clear hx
      have hba : Below wr.heap.size wr (wr.alloc (.cells #[.int .i64 xv, .int .i64 s, .int .i64 v, .slice a' (flen k) c'] 99)) := (Below.refl _ _).alloc (Nat.le_refl _) _
      have HSL := Lib.hid ((hsl.below (hba.mono (Nat.le_of_lt hsz))).mono (lo' := 0) (B' := (wr.alloc (.cells #[.int .i64 xv, .int .i64 s, .int .i64 v, .slice a' (flen k) c'] 99)).heap.size) (Nat.le_refl _) (by simp; omega))
      have HM1 := Lib.hid (HM.out.below hba)
      have HLW1 := Lib.hid (HLW.out.trans (hba.mono (Nat.le_of_lt hsz)))
      clear hsl hba
      go_wp2_with fail
      with_reducible refine (nodeOf_any s v a' c' k room _ HSL.out h1 h2).mono ?_
      rintro e w2 ⟨nv, rfl, hb2, hyes⟩
      have q0 := cell_low hb2 (q := ⟨wr.heap.size, 0, none⟩) (x := .int .i64 xv) (by simp)
      have HM2 := Lib.hid (HM1.out.below hb2)
      have hs2 := hb2.size
      simp at hs2
      have HLW2 := Lib.hid (HLW1.out.trans (hb2.mono (by simp; omega)))
      have HY := Lib.hid hyes
      clear hb2 hyes c0 c1 c2 c3 HM1 HLW1 HSL HM HLW
      cases hok : okW s v k room with
      | false =>
        have HF : Hid (sok room bs = false) := by rw [Hid, HS.out, HD.out]; simp only [sokFrom, hok, Bool.false_and]
        clear hok
        go_wp2_with fail
        refine bodyPost_ret (v := .tuple #[.map none, .bool false]) ?_ rfl ⟨HLW2.out, .inr ⟨HF.out, rfl⟩⟩
        simp [results, Try.results39, go_sem]
      | true =>
        have HY2 := Lib.hid (HY.out hok)
        by_cases hlx : xv ≤ last
        · have HF : Hid (sok room bs = false) := by
            rw [Hid, HS.out, HD.out]; simp only [sokFrom]; rw [decide_eq_false (show ¬ last < xv by omega)]; simp
          have dl : decide (xv ≤ last) = true := decide_eq_true hlx
          clear hok HY
          go_wp2_with fail
          refine bodyPost_ret (v := .tuple #[.map none, .bool false]) ?_ rfl ⟨HLW2.out, .inr ⟨HF.out, rfl⟩⟩
          simp [results, Try.results39, go_sem]
        · have dl : decide (xv ≤ last) = false := decide_eq_false hlx
          by_cases h12 : 12 ≤ xv
          · have HF : Hid (sok room bs = false) := by
              rw [Hid, HS.out, HD.out]; simp only [sokFrom]; rw [decide_eq_false (show ¬ xv < 12 by omega)]; simp
            have dg : decide (xv ≥ 12) = true := decide_eq_true h12
            clear hok HY
            go_wp2_with fail
            refine bodyPost_ret (v := .tuple #[.map none, .bool false]) ?_ rfl ⟨HLW2.out, .inr ⟨HF.out, rfl⟩⟩
            simp [results, Try.results39, go_sem]
          · have dg : decide (xv ≥ 12) = false := decide_eq_false h12
            have HT : Hid (sok room bs = sokFrom room xv (bs.drop (j + 1))) := by
              rw [Hid, HS.out, HD.out]
              simp only [sokFrom, hok]
              rw [decide_eq_true (show last < xv by omega), decide_eq_true (show xv < 12 by omega)]; simp
            have HWF : Hid ((Lit.int .i64 xv).wf = true) := WalkArith.wf_i64 (by omega)
            have HTK : Hid (bs.take (j + 1) = bs.take j ++ [(xv, s, v, k)]) := by rw [Hid, List.take_add_one, HX.out]; rfl
            obtain ⟨n, D, hown, hn, hsv⟩ := HM2.out
            have HOWN := Lib.hid hown
            have HSV := Lib.hid hsv
            have hn12 : n < 100 := by have : (bs.take j).length ≤ j := by rw [List.length_take]; omega
                                      omega
            have hnm : n < maxLen := by unfold maxLen; omega
            have hnl : Hid (n ≤ 12 + (bs.take j).length) := hn
            have HNV : Hid (NodeIs w2 0 w2.heap.size nv s v k) := HY2.out.mono (Nat.zero_le _) (Nat.le_refl _)
            have HKEY := Lib.hid (key_of HWF.out)
            have HNX := Lib.hid (HN.out xv (by omega))
            clear hok HY hown hsv hn
            go_wp2_with (at_mapUpdate; refine wpList_mapUpdate_own (H := Value) _ rfl _ _ _ 68 rfl 100 57 law underM rdV w.heap.size n D rfl HOWN.out hnm (.int .i64 xv) nv (.int .i64 xv) rfl rfl HKEY.out (.held nv) [] rfl ?_; intro w3 hown3 hgrow3; have HM3 := Lib.hid (MapIs.put hnl.out HSV.out HOWN.out hown3 hgrow3 HNX.out HNV.out); have q3 := cells_keep HOWN.out hgrow3 _ _ q0; have HG3 := Lib.hid hgrow3; clear hown3 hgrow3)
            go_roundw
            case rel =>
              refine ⟨j + 1, xv, rfl, by go_num, by omega, by omega, by omega, by omega, HT, ?_, ?_, ?_, ?_⟩
              · rw [HTK.out]; exact HM3
              · exact HLW2.out.grown HG3.out (by omega) (fun g hg => by cases hg; exact Nat.le_refl _)
              · have := HG3.out.size; omega
              · intro y hy
                rw [HTK.out, sv_snoc (x := (xv, s, v, k)) HNX.out]
                rw [if_neg (show xv ≠ y by omega)]
                exact HN.out y (by omega)
            case measure => simp [intOf]; omega
    · have HE : Hid (sok room bs = true) := by rw [Hid, HS.out, List.drop_eq_nil_of_le (by omega)]; rfl
      have HM4 : Hid (MapIs wr w.heap.size bs) := by have := HM.out; rw [List.take_of_length_le (by omega)] at this; exact this
      go_wp2_with fail
      refine bodyPost_ret (v := .tuple #[.map (some w.heap.size), .bool true]) ?_ rfl ⟨HLW.out, .inl ⟨HE.out, w.heap.size, rfl, Nat.le_refl _, HM4.out⟩⟩
      simp [results, Try.results39, go_sem]
end Go.Proofs.Ytbgjdkpdjclagaa

/-! S3: What is put in: plain; nodes that stay. valueOf, symbolOf. -/
namespace Go.Proofs.Ytbgjdkpdjclagaa
open Go.RowKit Go.Deep Go.Maps

/-- What variables stand for put into terms of a row. -/
def fsub (σ : Int → Option (Int × Int × Fo)) : Fo → Fo
  | .nil => .nil
  | .node x y p k r => if p.1 = 0 then (match σ p.2 with
      | some t => .node x y (t.1, t.2.1) t.2.2 (fsub σ r)
      | none => .node x y p k (fsub σ r)) else .node x y p (fsub σ k) (fsub σ r)
def tsub (σ : Int → Option (Int × Int × Fo)) (s v : Int) (k : Fo) : Int × Int × Fo := if s = 0 then (σ v).getD (s, v, k) else (s, v, fsub σ k)
theorem fsub_len (σ : Int → Option (Int × Int × Fo)) : ∀ k : Fo, flen (fsub σ k) = flen k
  | .nil => rfl
  | .node _ _ p k r => by
    simp only [fsub]
    split
    · split <;> simp only [flen, fsub_len σ r]
    · simp only [flen, fsub_len σ r]
theorem fsub_at (σ : Int → Option (Int × Int × Fo)) : ∀ (i : Nat) (k : Fo) {x y : Nat} {s v : Int} {kk r : Fo}, fdrop i k = .node x y (s, v) kk r → fdrop i (fsub σ k) = .node x y ((tsub σ s v kk).1, (tsub σ s v kk).2.1) (tsub σ s v kk).2.2 (fdrop (i + 1) (fsub σ k))
  | 0, .nil, _, _, _, _, _, _, h => by simp [fdrop] at h
  | 0, .node _ _ p k r, x, y, s, v, kk, r', h => by
    simp only [fdrop, BT.node.injEq] at h
    obtain ⟨rfl, rfl, rfl, rfl, _⟩ := h
    simp only [fsub, tsub]
    by_cases e : s = 0
    · simp only [if_pos e]
      cases σ v with
      | none => simp [fdrop]
      | some t => simp [fdrop]
    · simp only [if_neg e]
      simp [fdrop]
  | _ + 1, .nil, _, _, _, _, _, _, h => by simp [fdrop] at h
  | n + 1, .node _ _ p k r, x, y, s, v, kk, r', h => by
    simp only [fdrop] at h
    have := fsub_at σ n r h
    simp only [fsub]
    split
    · split <;> simp only [fdrop, this]
    · simp only [fdrop, this]

/-- What stays where all cells but those of no node stay. -/
theorem NRow.keepN {w w' : World} {lo B : Nat} (hk : ∀ q x, w.cell? q = some x → x ≠ .nilIface → w'.cell? q = some x) : ∀ (k : Fo) (b o : Nat), NRow w lo B k b o → NRow w' lo B k b o
  | .nil, _, _, _ => trivial
  | .node _ _ p k r, b, o, ⟨hl, h0, ⟨val, h1, h2⟩, h5⟩ => by
    have hne : val ≠ .nilIface := by
      rcases h2 with ⟨_, _, rfl⟩ | ⟨_, a, c, rfl, _⟩ <;> (intro e; cases e)
    refine ⟨hl, h0, ⟨val, hk _ _ h1 hne, ?_⟩, NRow.keepN hk r b (o + 1) h5⟩
    rcases h2 with h2 | ⟨e, a, c, e2, h3⟩
    · exact .inl h2
    · refine .inr ⟨e, a, c, e2, ?_⟩
      rcases h3 with h3 | ⟨b', o', e3, h3⟩
      · exact .inl h3
      · exact .inr ⟨b', o', e3, NRow.keepN hk k b' o' h3⟩
theorem NodeIs.keepN {w w' : World} {lo B : Nat} {val : Value} {s v : Int} {k : Fo} (hk : ∀ q x, w.cell? q = some x → x ≠ .nilIface → w'.cell? q = some x) (h : NodeIs w lo B val s v k) : NodeIs w' lo B val s v k := by
  rcases h with h | ⟨hs, a, c, e, h⟩
  · exact .inl h
  · refine .inr ⟨hs, a, c, e, ?_⟩
    rcases h with h | ⟨b, o, e2, h⟩
    · exact .inl h
    · exact .inr ⟨b, o, e2, h.keepN hk⟩
theorem nrow_of_allS {w : World} {lo B : Nat} : ∀ (k : Fo) (b o : Nat), lo ≤ b → b < B →
    (∀ i, i < flen k → ∃ x y s v kk val, fdrop i k = .node x y (s, v) kk (fdrop (i + 1) k) ∧ w.cell? ⟨b, o + i, none⟩ = some val ∧ NodeIs w lo B val s v kk) → NRow w lo B k b o
  | .nil, _, _, _, _, _ => trivial
  | .node x y p kk r, b, o, h1, h2, h => by
    obtain ⟨x', y', s, v, kk', val, e, c0, hn⟩ := h 0 (by simp [flen])
    simp only [fdrop, BT.node.injEq] at e
    obtain ⟨_, _, rfl, rfl, _⟩ := e
    refine ⟨h1, h2, ⟨val, by simpa using c0, hn⟩, nrow_of_allS r b (o + 1) h1 h2 fun i hi => ?_⟩
    obtain ⟨x', y', s', v', kk', val', e, c0, hn⟩ := h (i + 1) (by simp [flen]; omega)
    exact ⟨x', y', s', v', kk', val', e, by rw [show o + 1 + i = o + (i + 1) from by omega]; exact c0, hn⟩

theorem zeroE (w : World) : (zeroValue 57).run Try.prog w = .ok .nilIface w := by kernel_rfl

def NvPost (s v : Int) (k : Fo) (w : World) (e : Ending) (w' : World) : Prop := ∃ nv, e = .returned nv ∧ Below w.heap.size w w' ∧ NodeIs w' 0 w'.heap.size nv s v k

set_option maxRecDepth 100000 in
set_option maxHeartbeats 1000000 in
theorem valueOf_any (bs : List Bd) (b : Nat) (x : Int) (w : World) (hm : MapIs w b bs) (hw : (Lit.int .i64 x).wf = true) :
    Calls Try.prog 61 #[.map (some b), .int .i64 x] w (NvPost (tsub (sv bs) 0 x .nil).1 (tsub (sv bs) 0 x .nil).2.1 (tsub (sv bs) 0 x .nil).2.2 w) := by
  obtain ⟨n, D, hown, hn, hsv⟩ := hm
  have HOWN := Lib.hid hown
  have HKEY := Lib.hid (key_of hw)
  have hx := hsv x hw
  have hz := zeroE
  clear hown hsv
  cases hs : sv bs x with
  | none =>
    have hh := hx.1 hs
    have HT : Hid (tsub (sv bs) 0 x .nil = (0, x, .nil)) := by simp [Hid, tsub, hs]
    clear hx hs
    go_enter Try.func61, Try.ntmps61
    go_wp2_with (at_lookup; refine wpList_lookup_own_ok (H := Value) _ rfl _ _ 68 rfl 100 57 law underM rdV (zeroE _) (.held .nilIface) [] rfl b n D rfl HOWN.out (.int .i64 x) (.int .i64 x) rfl HKEY.out ?_; intro nv ps hnv; rw [hh]; clear hnv)
    go_ret
    rw [HT.out]
    exact ⟨_, rfl, Below.refl _ _, .inl ⟨rfl, rfl, rfl⟩⟩
  | some t =>
    obtain ⟨s', v', k'⟩ := t
    obtain ⟨hh, nv0, hat, hnode⟩ := hx.2 s' v' k' hs
    have HT : Hid (tsub (sv bs) 0 x .nil = (s', v', k')) := by simp [Hid, tsub, hs]
    have HNODE := Lib.hid hnode
    have HAT := Lib.hid hat
    clear hx hs hnode hat
    go_enter Try.func61, Try.ntmps61
    go_wp2_with (at_lookup; refine wpList_lookup_own_ok (H := Value) _ rfl _ _ 68 rfl 100 57 law underM rdV (zeroE _) (.held .nilIface) [] rfl b n D rfl HOWN.out (.int .i64 x) (.int .i64 x) rfl HKEY.out ?_; intro nv ps hnv; rw [hh]; have HE : Hid (nv = nv0) := (by have := HAT.out; simp only [rdV, Option.some.injEq, Prod.mk.injEq] at hnv; rw [this] at hnv; exact DataW.held.inj hnv.1); clear hnv)
    go_ret
    rw [HT.out]
    exact ⟨nv, rfl, Below.refl _ _, by rw [HE.out]; exact HNODE.out⟩

set_option maxRecDepth 100000 in
theorem symbolOf_any (s : Int) (a : Option Addr) (n c : Nat) (w : World) :
    Calls Try.prog 62 #[.int .i64 s, .slice a n c] w fun e w' => e = .returned (.iface 105 (.agg #[.int .i64 s, .slice a n c])) ∧ w' = w := by
  go_enter Try.func62, Try.ntmps62
  go_wp2_with fail
  go_ret
  exact ⟨rfl, rfl⟩
end Go.Proofs.Ytbgjdkpdjclagaa

/-! V0: The variables of a term: as they come; sorted, each once. Plain lemmas. -/
namespace Go.Proofs.Ytbgjdkpdjclagaa
open Go.RowKit Go.Deep

/-- The variables of terms, as they come. -/
def fvl : Fo → List Int
  | .nil => []
  | .node _ _ p k r => (if p.1 = 0 then [p.2] else fvl k) ++ fvl r
/-- The variables of a term, as they come. -/
def fvs (s v : Int) (k : Fo) : List Int := if s = 0 then [v] else fvl k

theorem fvl_sz : ∀ k : Fo, (fvl k).length ≤ fsz k
  | .nil => Nat.le_refl _
  | .node _ _ p k r => by
    have h1 := fvl_sz k
    have h2 := fvl_sz r
    simp only [fvl, fsz, List.length_append]
    split
    · simp; omega
    · omega
/-- What stands ahead of the j-th has no more variables than room. -/
theorem fvl_ge : ∀ (j : Nat) (k : Fo), (fvl k).length + fsz (fdrop j k) ≤ fsz k + (fvl (fdrop j k)).length
  | 0, k => by simp [fdrop]; omega
  | _ + 1, .nil => by simp only [fdrop]; omega
  | n + 1, .node _ _ p kk r => by
    have h := fvl_ge n r
    have h1 := fvl_sz kk
    simp only [fdrop, fvl, fsz, List.length_append]
    split
    · simp; omega
    · omega
theorem fvs_sz (s v : Int) (k : Fo) : (fvs s v k).length ≤ 1 + fsz k := by
  have := fvl_sz k
  unfold fvs
  split
  · simp
  · omega
theorem fvl_in : ∀ (k : Fo), fok k = true → ∀ x ∈ fvl k, 0 ≤ x ∧ x ≤ 11
  | .nil, _, x, hx => by simp [fvl] at hx
  | .node _ _ p k r, h, x, hx => by
    simp only [fok, Bool.and_eq_true] at h
    simp only [fvl, List.mem_append] at hx
    rcases hx with hx | hx
    · split at hx
      · rename_i hp
        simp only [List.mem_singleton] at hx
        subst hx
        exact ((okN_iff _ _ _).1 h.1.1).2.1 hp
      · exact fvl_in k h.1.2 x hx
    · exact fvl_in r h.2 x hx
theorem fvs_in {s v : Int} {k : Fo} (h : okW s v k 16 = true) : ∀ x ∈ fvs s v k, 0 ≤ x ∧ x ≤ 11 := by
  have h' := (okW_iff _ _ _ _).1 h
  intro x hx
  unfold fvs at hx
  split at hx
  · rename_i hs
    simp only [List.mem_singleton] at hx
    subst hx
    exact ((okN_iff _ _ _).1 h'.1).2.1 hs
  · exact fvl_in k h'.2.1 x hx

theorem strict_ext : ∀ (l1 l2 : List Int), l1.Pairwise (· < ·) → l2.Pairwise (· < ·) → (∀ x, x ∈ l1 ↔ x ∈ l2) → l1 = l2
  | [], [], _, _, _ => rfl
  | [], b :: _, _, _, h => by have := (h b).2 (by simp); simp at this
  | a :: _, [], _, _, h => by have := (h a).1 (by simp); simp at this
  | a :: l1, b :: l2, h1, h2, h => by
    rw [List.pairwise_cons] at h1 h2
    have e : a = b := by
      rcases List.mem_cons.1 ((h a).1 (by simp)) with e | e
      · exact e
      · rcases List.mem_cons.1 ((h b).2 (by simp)) with e' | e'
        · exact e'.symm
        · have := h1.1 b e'; have := h2.1 a e; omega
    subst e
    rw [strict_ext l1 l2 h1.2 h2.2 fun x => ?_]
    constructor
    · intro hx
      rcases List.mem_cons.1 ((h x).1 (by simp [hx])) with e | e
      · have := h1.1 x hx; omega
      · exact e
    · intro hx
      rcases List.mem_cons.1 ((h x).2 (by simp [hx])) with e | e
      · have := h2.1 x hx; omega
      · exact e

/-- Of a sorted row each once, in order, and none is lost. -/
theorem compact_sorted (ys : List Int) (hs : ys.Pairwise (· ≤ ·)) : ∀ m, m ≤ ys.length →
    (Lib.compactUpTo ys.toArray m).Pairwise (· < ·) ∧ (∀ x, x ∈ Lib.compactUpTo ys.toArray m ↔ ∃ j, j < m ∧ ys[j]? = some x) := by
  have hget : ∀ j, j < ys.length → ys[j]? = some (ys.toArray[j]!) := fun j hj => by simp [hj]
  have hle : ∀ i j, i ≤ j → j < ys.length → ys.toArray[i]! ≤ ys.toArray[j]! := fun i j hij hj => by
    rcases Nat.lt_or_ge i j with h | h
    · have := List.pairwise_iff_getElem.1 hs i j (by omega) hj h
      simpa [hj, show i < ys.length by omega] using this
    · have : i = j := by omega
      subst this
      exact Int.le_refl _
  intro m
  induction m with
  | zero => intro _; exact ⟨by simp [Lib.compactUpTo], fun x => by simp [Lib.compactUpTo]⟩
  | succ m ih =>
    intro hm
    obtain ⟨h1, h2⟩ := ih (by omega)
    rw [Lib.compactUpTo_succ]
    by_cases hk : Lib.keeps ys.toArray m = true
    · rw [if_pos hk]
      refine ⟨List.pairwise_append.2 ⟨h1, List.pairwise_singleton _ _, fun a ha b hb => ?_⟩, fun x => ?_⟩
      · simp only [List.mem_singleton] at hb
        subst hb
        obtain ⟨j, hj, hja⟩ := (h2 a).1 ha
        rw [hget j (by omega)] at hja
        have hja' := Option.some.inj hja
        have hne : ys.toArray[m]! ≠ ys.toArray[m - 1]! := by
          simp only [Lib.keeps, decide_eq_true_eq] at hk
          rcases hk with hk | hk
          · omega
          · exact hk
        have a1 := hle j (m - 1) (by omega) (by omega)
        have a2 := hle (m - 1) m (by omega) (by omega)
        rw [← hja']
        omega
      · simp only [List.mem_append, List.mem_singleton]
        constructor
        · rintro (hx | rfl)
          · obtain ⟨j, hj, e⟩ := (h2 x).1 hx
            exact ⟨j, by omega, e⟩
          · exact ⟨m, by omega, hget m (by omega)⟩
        · rintro ⟨j, hj, e⟩
          by_cases hjm : j < m
          · exact .inl ((h2 x).2 ⟨j, hjm, e⟩)
          · have : j = m := by omega
            subst this
            rw [hget j (by omega)] at e
            exact .inr (Option.some.inj e).symm
    · rw [if_neg hk, List.append_nil]
      refine ⟨h1, fun x => ⟨fun hx => ?_, fun hx => ?_⟩⟩
      · obtain ⟨j, hj, e⟩ := (h2 x).1 hx
        exact ⟨j, by omega, e⟩
      · obtain ⟨j, hj, e⟩ := hx
        by_cases hjm : j < m
        · exact (h2 x).2 ⟨j, hjm, e⟩
        · have : j = m := by omega
          subst this
          have hk' : ¬(j = 0 ∨ ys.toArray[j]! ≠ ys.toArray[j - 1]!) := by simpa [Lib.keeps] using hk
          have h0 : j ≠ 0 := fun h => hk' (.inl h)
          have heq : ys.toArray[j]! = ys.toArray[j - 1]! := Classical.byContradiction fun h => hk' (.inr h)
          rw [hget j (by omega), heq, ← hget (j - 1) (by omega)] at e
          exact (h2 x).2 ⟨j - 1, by omega, e⟩

/-- The numbers from 0 to 11 that are in a list. -/
def among (xs : List Int) (n : Nat) : List Int := ((List.range n).map (fun (i : Nat) => (i : Int))).filter (fun x => decide (x ∈ xs))
theorem among_mem (xs : List Int) (n : Nat) (x : Int) : x ∈ among xs n ↔ x ∈ xs ∧ 0 ≤ x ∧ x < n := by
  simp only [among, List.mem_filter, List.mem_map, List.mem_range, decide_eq_true_eq]
  constructor
  · rintro ⟨⟨i, hi, rfl⟩, h⟩
    exact ⟨h, by omega, by omega⟩
  · rintro ⟨h, h0, h1⟩
    exact ⟨⟨x.toNat, by omega, by omega⟩, h⟩
theorem among_strict (xs : List Int) (n : Nat) : (among xs n).Pairwise (· < ·) := by
  refine List.Pairwise.filter _ ?_
  rw [List.pairwise_map]
  refine List.Pairwise.imp ?_ List.pairwise_lt_range
  intro a b h
  omega
theorem among_succ (xs : List Int) (n : Nat) : among xs (n + 1) = among xs n ++ (if (n : Int) ∈ xs then [(n : Int)] else []) := by
  simp only [among, List.range_succ, List.map_append, List.filter_append, List.map_cons, List.map_nil]
  congr 1
  by_cases h : (n : Int) ∈ xs <;> simp [h]
theorem compact_among (xs : List Int) (h : ∀ x ∈ xs, 0 ≤ x ∧ x ≤ 11) : Lib.compact (xs.mergeSort fun x y => decide (x ≤ y)) = among xs 12 := by
  have hs : (xs.mergeSort fun x y => decide (x ≤ y)).Pairwise (· ≤ ·) := by
    have := List.pairwise_mergeSort (le := fun (x y : Int) => decide (x ≤ y)) (fun a b c h1 h2 => by simp only [decide_eq_true_eq] at *; omega) (fun a b => by simp only [Bool.or_eq_true, decide_eq_true_eq]; omega) xs
    exact this.imp (fun h => by simpa using h)
  obtain ⟨h1, h2⟩ := compact_sorted _ hs _ (Nat.le_refl _)
  refine strict_ext _ _ h1 (among_strict xs 12) fun x => ?_
  rw [among_mem]
  have h3 : x ∈ Lib.compact (xs.mergeSort fun x y => decide (x ≤ y)) ↔ x ∈ xs := by
    rw [Lib.compact, h2 x, ← List.mem_mergeSort (le := fun (x y : Int) => decide (x ≤ y)) (l := xs)]
    constructor
    · rintro ⟨j, _, e⟩
      exact List.mem_of_getElem? e
    · intro hx
      obtain ⟨j, hj, e⟩ := List.getElem_of_mem hx
      exact ⟨j, hj, by rw [List.getElem?_eq_getElem hj, e]⟩
  rw [h3]
  constructor
  · intro hx
    have := h x hx
    exact ⟨hx, by omega, by omega⟩
  · exact fun hx => hx.1
end Go.Proofs.Ytbgjdkpdjclagaa

/-! V1: - addVars: the variables of a node, appended as they come. -/
namespace Go.Proofs.Ytbgjdkpdjclagaa
open Go.RowKit Go.Deep

theorem assert_varV (v : Int) (w : World) : (Instr.typeAssert (.iface 100 (.int .i64 v)) 57 100 true).run Try.prog w = .ok (.tuple #[.int .i64 v, .bool true]) w := by kernel_rfl
theorem assert_symV (s : Int) (a : Option Addr) (n c : Nat) (w : World) : (Instr.typeAssert (.iface 105 (.agg #[.int .i64 s, .slice a n c])) 57 100 true).run Try.prog w = .ok (.tuple #[.int .i64 0, .bool false]) w := by kernel_rfl

/-- A row of numbers of the call's own. -/
def AvPost (base : Nat) (xs : List Int) (s v : Int) (k : Fo) (w : World) (e : Ending) (w' : World) : Prop :=
  ∃ ys A C, ys = xs ++ fvs s v k ∧ e = .returned (.slice A ys.length C) ∧ IOwn w' base ys A C ∧ Below base w w'

end Go.Proofs.Ytbgjdkpdjclagaa

/-! S4: fold over nodes with valueOf and symbolOf; apply. -/
namespace Go.Proofs.Ytbgjdkpdjclagaa
open Go.RowKit Go.Deep Go.Maps

/-- What holds at the head of fold's loop: j kids are done. -/
structure FoAt (w : World) (σ : Int → Option (Int × Int × Fo)) (k : Fo) (g j : Nat) (wr : World) : Prop where
  below : Below w.heap.size w wr
  new : w.heap.size ≤ g
  lt : g < wr.heap.size
  row : ∃ vs, wr.ownsRow w.heap.size 57 1 (.slice (some ⟨g, 0, none⟩) (flen k) (flen k)) (flen k) vs ∧ (∀ i, j ≤ i → i < flen k → vs[i]? = some .nilIface) ∧
    ∀ i, i < j → ∃ x y s v kk nv, fdrop i k = .node x y (s, v) kk (fdrop (i + 1) k) ∧ vs[i]? = some nv ∧ NodeIs wr 0 wr.heap.size nv (tsub σ s v kk).1 (tsub σ s v kk).2.1 (tsub σ s v kk).2.2
theorem FoAt.start {w u : World} {σ : Int → Option (Int × Int × Fo)} {k : Fo} (hb : Below w.heap.size w u) (hk : flen k ≤ 1000) : FoAt w σ k u.heap.size 0 (u.alloc (.cells (madeCells #[.nilIface] (flen k)) 57)) := by
  have hs := hb.size
  refine ⟨hb.alloc hs _, hs, by simp, ⟨_, World.ownsRow_lit (base := w.heap.size) (e := 57) (size := 1) u (madeCells #[.nilIface] (flen k)) (flen k) hs (by unfold maxLen; omega) (by simp [madeCells]), fun i _ hi => ?_, fun i hi => by omega⟩⟩
  rw [toList_madeCells_one, List.getElem?_replicate, if_pos hi]
theorem FoAt.step {w wr w2 : World} {σ : Int → Option (Int × Int × Fo)} {k : Fo} {g j x y : Nat} {s v : Int} {kk : Fo} {nv : Value} (h : FoAt w σ k g j wr) (hj : j < flen k) (hd : fdrop j k = .node x y (s, v) kk (fdrop (j + 1) k)) (hb : Below wr.heap.size wr w2)
    (hn : NodeIs w2 0 w2.heap.size nv (tsub σ s v kk).1 (tsub σ s v kk).2.1 (tsub σ s v kk).2.2) : FoAt w σ k g (j + 1) (w2.setCell ⟨g, j, none⟩ nv) := by
  obtain ⟨vs, hown, hnil, hall⟩ := h.row
  have hs := hb.size
  have hl := h.lt
  have hnew := h.new
  have hws := h.below.size
  have hown2 := own_low hb hown
  have hcj : w2.cell? ⟨g, j, none⟩ = some .nilIface := by rw [hown2.cellAt j (by omega)]; exact hnil j (Nat.le_refl _) hj
  have hkeep : ∀ q z, w2.cell? q = some z → z ≠ .nilIface → (w2.setCell ⟨g, j, none⟩ nv).cell? q = some z := fun q z hq hz => by
    by_cases e : q = ⟨g, j, none⟩
    · subst e; rw [hcj] at hq; exact absurd (Option.some.inj hq).symm hz
    · rw [World.cell?_setCell_other _ _ _ _ (fun h' => e h'.symm)]; exact hq
  have hvl : vs.length = flen k := by have := hown.1; omega
  refine ⟨(h.below.trans (hb.mono hws)).setCell hnew _, hnew, by simp; omega, ⟨vs.set j nv, (hown2.stored j nv).1, fun i h1 h2 => ?_, fun i hi => ?_⟩⟩
  · rw [List.getElem?_set_ne (by omega)]; exact hnil i (by omega) h2
  · by_cases e : i = j
    · subst e
      exact ⟨x, y, s, v, kk, nv, hd, List.getElem?_set_self (by omega), (hn.keepN hkeep).mono (Nat.le_refl _) (by simp)⟩
    · obtain ⟨x', y', s', v', kk', nv', e1, e2, e3⟩ := hall i (by omega)
      exact ⟨x', y', s', v', kk', nv', e1, by rw [List.getElem?_set_ne (fun h' => e h'.symm)]; exact e2, (((e3.below hb).mono (Nat.le_refl _) hs).keepN hkeep).mono (Nat.le_refl _) (by simp)⟩
theorem FoAt.done {w wr : World} {σ : Int → Option (Int × Int × Fo)} {k : Fo} {g : Nat} (h : FoAt w σ k g (flen k) wr) : NSl wr 0 wr.heap.size (some ⟨g, 0, none⟩) (fsub σ k) := by
  obtain ⟨vs, hown, _, hall⟩ := h.row
  refine .inr ⟨g, 0, rfl, nrow_of_allS _ _ _ (Nat.zero_le _) h.lt fun i hi => ?_⟩
  rw [fsub_len] at hi
  obtain ⟨x, y, s, v, kk, nv, hd, hv, hn⟩ := hall i hi
  exact ⟨x, y, _, _, _, nv, fsub_at σ i k hd, by rw [Nat.zero_add, hown.cellAt i (by omega)]; exact hv, hn⟩
end Go.Proofs.Ytbgjdkpdjclagaa
