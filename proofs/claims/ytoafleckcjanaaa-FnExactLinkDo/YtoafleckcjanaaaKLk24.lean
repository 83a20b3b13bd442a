/- Several texts in one: G2, MJ, FW. -/
import Derived.Test.YtoafleckcjanaaaKLk23
import Derived.Test.YtoafleckcjanaaaKLk7
import Derived.Lib.Slices
import Derived.Test.YtoafleckcjanaaaKLk11
import Derived.Test.YtoafleckcjanaaaKLk20
import Derived.Test.YtoafleckcjanaaaKLk21
import Derived.Test.YtoafleckcjanaaaKLk22
import Derived.RangeFuncOwn

/-! G2: sameNode, signOf, kidsOf, a cut of a row of nodes, before. -/
namespace Go.Proofs.Ytoafleckcjanaaa
open Go.RowKit Go.Deep

/-- A node of a well-formed term. -/
structure Nd (w : World) (val : Value) (s v : Int) (k : Fo) : Prop where
  node : NodeC w 0 w.heap.size val s v k
  okn : okN s v (flen k) = true
  ok : fok k = true
  small : fsz k ≤ 100
theorem Nd.next {w w2 : World} {val : Value} {s v : Int} {k : Fo} (h : Nd w val s v k) (hb : Below w.heap.size w w2) : Nd w2 val s v k :=
  ⟨(h.node.below hb).mono (Nat.le_refl _) hb.size, h.okn, h.ok, h.small⟩
theorem Nd.shape {w : World} {val : Value} {s v : Int} {k : Fo} (h : Nd w val s v k) : Shape s v k := shape_of h.okn h.ok

theorem varTx_any (v : Int) (h : okN 0 v (flen (.nil : Fo)) = true) (w : World) :
    Calls Try.prog 148 #[.int .i64 v] w fun e w' => e = .returned (.string (str (tx 0 v .nil))) ∧ Below w.heap.size w w' := by
  have hv := ((okN_iff _ _ _).1 h).2.1 rfl
  rw [tx_var]
  exact (varText_any v hv.1 (by omega) w).mono fun e w' ⟨he, hw⟩ => ⟨he, hw ▸ Below.refl _ _⟩
theorem txt_teq {s v : Int} {k : Fo} {s' v' : Int} {k' : Fo} (h : Shape s v k) (h' : Shape s' v' k') : ((str (tx s v k)).toList == (str (tx s' v' k')).toList) = teq s v k s' v' k' := by
  have hl : ∀ l : List UInt8, (str l).toList = l := fun l => by simp [str]
  rw [hl, hl]
  have := tx_teq h h'
  cases ht : teq s v k s' v' k' with
  | true => exact beq_iff_eq.2 (this.2 ht)
  | false => exact beq_eq_false_iff_ne.2 fun he => by rw [this.1 he] at ht; cases ht

set_option maxRecDepth 100000 in
set_option maxHeartbeats 1000000 in
theorem sameNode_any {s v : Int} {k : Fo} {val : Value} {s' v' : Int} {k' : Fo} {val' : Value} {w : World} (h : Nd w val s v k) (h' : Nd w val' s' v' k') :
    Calls Try.prog 98 #[val, val'] w fun e w' => e = .returned (.bool (teq s v k s' v' k')) ∧ Below w.heap.size w w' := by
  have HT := Lib.hid (txt_teq h.shape h'.shape)
  have HO := Lib.hid h.okn
  have HO' := Lib.hid h'.okn
  have HF := Lib.hid h.ok
  have HF' := Lib.hid h'.ok
  have hz := h.small
  have hz' := h'.small
  rcases h.node with ⟨rfl, rfl, rfl⟩ | ⟨hs, a, c, rfl, _, hl⟩
  · rcases h'.node with ⟨rfl, rfl, rfl⟩ | ⟨hs', a', c', rfl, _, hl'⟩
    · clear h h'
      go_enter Try.func98, Try.ntmps98
      go_wp2_with fail
      refine upon_method 148 (by kernel_rfl) (by kernel_rfl) ?_
      go_simp
      with_reducible refine (varTx_any v HO.out _).mono ?_
      rintro e w2 ⟨rfl, hb2⟩
      go_wp2_with fail
      refine upon_method 148 (by kernel_rfl) (by kernel_rfl) ?_
      go_simp
      with_reducible refine (varTx_any v' HO'.out _).mono ?_
      rintro e w3 ⟨rfl, hb3⟩
      go_wp2_with fail
      go_ret
      exact ⟨by rw [HT.out]; rfl, hb2.trans (hb3.mono hb2.size)⟩
    · have HL' := Lib.hid hl'
      obtain rfl : v' = 0 := ((okN_iff _ _ _).1 HO'.out).2.2 hs'
      have HS' := Lib.hid hs'
      clear h h' hl' hs'
      go_enter Try.func98, Try.ntmps98
      go_wp2_with fail
      refine upon_method 148 (by kernel_rfl) (by kernel_rfl) ?_
      go_simp
      with_reducible refine (varTx_any v HO.out _).mono ?_
      rintro e w2 ⟨rfl, hb2⟩
      have HB2 := Lib.hid hb2
      clear hb2
      go_wp2_with fail
      refine upon_method 165 (by kernel_rfl) (by kernel_rfl) ?_
      go_simp
      with_reducible refine (symText_any (fsz k') s' a' c' k' _ ((HL'.out.below HB2.out).mono (Nat.le_refl _) HB2.out.size).to HS'.out HO'.out HF'.out (Nat.le_refl _) (by omega)).mono ?_
      rintro e w3 ⟨rfl, hb3⟩
      go_wp2_with fail
      go_ret
      exact ⟨by rw [HT.out]; rfl, HB2.out.trans (hb3.mono HB2.out.size)⟩
  · have HL := Lib.hid hl
    obtain rfl : v = 0 := ((okN_iff _ _ _).1 HO.out).2.2 hs
    have HS := Lib.hid hs
    rcases h'.node with ⟨rfl, rfl, rfl⟩ | ⟨hs', a', c', rfl, _, hl'⟩
    · clear h h' hl hs
      go_enter Try.func98, Try.ntmps98
      go_wp2_with fail
      refine upon_method 165 (by kernel_rfl) (by kernel_rfl) ?_
      go_simp
      with_reducible refine (symText_any (fsz k) s a c k _ HL.out.to HS.out HO.out HF.out (Nat.le_refl _) (by omega)).mono ?_
      rintro e w2 ⟨rfl, hb2⟩
      have HB2 := Lib.hid hb2
      clear hb2
      go_wp2_with fail
      refine upon_method 148 (by kernel_rfl) (by kernel_rfl) ?_
      go_simp
      with_reducible refine (varTx_any v' HO'.out _).mono ?_
      rintro e w3 ⟨rfl, hb3⟩
      go_wp2_with fail
      go_ret
      exact ⟨by rw [HT.out]; rfl, HB2.out.trans (hb3.mono HB2.out.size)⟩
    · have HL' := Lib.hid hl'
      obtain rfl : v' = 0 := ((okN_iff _ _ _).1 HO'.out).2.2 hs'
      have HS' := Lib.hid hs'
      clear h h' hl hl' hs hs'
      go_enter Try.func98, Try.ntmps98
      go_wp2_with fail
      refine upon_method 165 (by kernel_rfl) (by kernel_rfl) ?_
      go_simp
      with_reducible refine (symText_any (fsz k) s a c k _ HL.out.to HS.out HO.out HF.out (Nat.le_refl _) (by omega)).mono ?_
      rintro e w2 ⟨rfl, hb2⟩
      have HB2 := Lib.hid hb2
      clear hb2
      go_wp2_with fail
      refine upon_method 165 (by kernel_rfl) (by kernel_rfl) ?_
      go_simp
      with_reducible refine (symText_any (fsz k') s' a' c' k' _ ((HL'.out.below HB2.out).mono (Nat.le_refl _) HB2.out.size).to HS'.out HO'.out HF'.out (Nat.le_refl _) (by omega)).mono ?_
      rintro e w3 ⟨rfl, hb3⟩
      go_wp2_with fail
      go_ret
      exact ⟨by rw [HT.out]; rfl, HB2.out.trans (hb3.mono HB2.out.size)⟩

/-- A row of nodes of well-formed terms. -/
structure Nds (w : World) (a : Option Addr) (c : Nat) (k : Fo) : Prop where
  sl : CSl w 0 w.heap.size a k
  cap : flen k ≤ c
  ok : fok k = true
  small : fsz k ≤ 100
theorem Nds.next {w w2 : World} {a : Option Addr} {c : Nat} {k : Fo} (h : Nds w a c k) (hb : Below w.heap.size w w2) : Nds w2 a c k :=
  ⟨(h.sl.below hb).mono (Nat.le_refl _) hb.size, h.cap, h.ok, h.small⟩
theorem Nds.at {w : World} {a : Option Addr} {c : Nat} {k : Fo} {j : Nat} (h : Nds w a c k) (hj : j < flen k) :
    ∃ b o s v kk val x y, a = some ⟨b, o, none⟩ ∧ fdrop j k = .node x y (s, v) kk (fdrop (j + 1) k) ∧ w.cell? ⟨b, o + j, none⟩ = some val ∧ Nd w val s v kk ∧ fsz kk < fsz k := by
  rcases h.sl with rfl | ⟨b, o, rfl, hr⟩
  · simp [flen] at hj
  · obtain ⟨s, v, kk, val, ⟨x, y, hd⟩, _, _, hc, hn⟩ := crow_at hr hj
    have hk := fok_kid h.ok hd
    have hs := fsz_kid hd
    have := h.small
    exact ⟨b, o, s, v, kk, val, x, y, rfl, hd, hc, ⟨hn, hk.1, hk.2, by omega⟩, by omega⟩

def KidsPostC (k : Fo) (w : World) (e : Ending) (w' : World) : Prop := ∃ a c, e = .returned (.slice a (flen k) c) ∧ Below w.heap.size w w' ∧ Nds w a c k
set_option maxRecDepth 100000 in
set_option maxHeartbeats 400000 in
theorem kidsOfC_any {s v : Int} {k : Fo} {nv : Value} {w : World} (h : Nd w nv s v k) : Calls Try.prog 119 #[nv] w (KidsPostC k w) := by
  have hta := assert_var
  have htb := assert_sym
  have HO := Lib.hid h.ok
  have HZ := Lib.hid h.small
  rcases h.node with ⟨rfl, rfl, rfl⟩ | ⟨hs, a, c, rfl, hcp, hn⟩
  · clear h
    go_enter Try.func119, Try.ntmps119
    go_wp2_with fail
    go_ret
    exact ⟨none, 0, rfl, Below.refl _ _, .inl rfl, Nat.le_refl _, HO.out, HZ.out⟩
  · have HN := Lib.hid hn
    have HC := Lib.hid hcp
    clear hn hcp h
    go_enter Try.func119, Try.ntmps119
    go_wp2_with fail
    go_ret
    exact ⟨a, c, rfl, (Below.refl _ _).alloc (Nat.le_refl _) _, HN.out, HC.out, HO.out, HZ.out⟩
set_option maxRecDepth 100000 in
set_option maxHeartbeats 400000 in
theorem signOf_any {s v : Int} {k : Fo} {nv : Value} {w : World} (h : Nd w nv s v k) : Calls Try.prog 120 #[nv] w fun e w' => e = .returned (.int .i64 s) ∧ Below w.heap.size w w' := by
  have hta := assert_var
  have htb := assert_sym
  rcases h.node with ⟨rfl, rfl, rfl⟩ | ⟨hs, a, c, rfl, hcp, hn⟩
  · clear h
    go_enter Try.func120, Try.ntmps120
    go_wp2_with fail
    go_ret
    exact ⟨rfl, Below.refl _ _⟩
  · clear hn hcp h
    go_enter Try.func120, Try.ntmps120
    go_wp2_with fail
    go_ret
    exact ⟨rfl, (Below.refl _ _).alloc (Nat.le_refl _) _⟩

/-- The nodes from number n on. -/
theorem cut_nodes {a : Option Addr} {c n m : Nat} {k : Fo} (hm : m = flen k) (hn : n ≤ flen k) (hc : flen k ≤ c) : ∃ a' c', (∀ w : World, (Instr.slice 164 (.slice a m c) (some (.int .i64 (n : Int))) none none).run Try.prog w = .ok (.slice a' (flen (fdrop n k)) c') w) ∧
    ∀ w : World, Nds w a c k → Nds w a' c' (fdrop n k) := by
  subst hm
  have hti := Try.infoNode
  obtain ⟨ti, hti, hz⟩ := Option.map_eq_some_iff.1 hti
  simp only [Prod.mk.injEq] at hz
  have hsz : ∀ w : World, (sizeOf (Try.prog.elem 164)).run Try.prog w = .ok 1 w := fun w => by
    have he : Try.prog.elem 164 = 107 := by kernel_rfl
    rw [he]
    simp [sizeOf, typeInfo, hti, hz.2.1]
  have hel : Try.prog.underlying 164 = some (.slice (Try.prog.elem 164)) := by kernel_rfl
  have hrun : ∀ w : World, (Instr.slice 164 (.slice a (flen k) c) (some (.int .i64 (n : Int))) none none).run Try.prog w = .ok (sliced a n (flen k) c 1) w := fun w => by
    rw [run_slice_l (P := Try.prog) w 164 a (flen k) c hel .i64 (n : Int) (by omega) (by omega), hsz]
    simp [Result.andThen]
  refine ⟨if c = n then a else a.map (·.add (n * 1)), c - n, fun w => by rw [hrun w, flen_drop]; rfl, fun w h => ⟨?_, by rw [flen_drop]; omega, ?_, ?_⟩⟩
  · split
    · exact .inl (fdrop_all (by omega))
    · rcases h.sl with rfl | ⟨b, o, rfl, h1⟩
      · exact .inl (fdrop_all (by simp [flen]))
      · refine .inr ⟨b, o + n, ?_, crow_drop n k b o h1⟩
        have ha : (⟨b, o, none⟩ : Addr).add n = ⟨b, o + n, none⟩ := by unfold Addr.add; split <;> simp_all
        simp only [Option.map_some, Nat.mul_one, ha]
  · have : ∀ (n : Nat) (k : Fo), fok k = true → fok (fdrop n k) = true := by
      intro n
      induction n with
      | zero => intro k h; exact h
      | succ n ih =>
        intro k h
        cases k with
        | nil => rfl
        | node x y p kk r => simp only [fok, Bool.and_eq_true] at h; exact ih r h.2
    exact this n k h.ok
  · have := fsz_drop n k
    have := h.small
    omega
end Go.Proofs.Ytoafleckcjanaaa

/-! MJ: sameNode and signOf over any nodes of well-formed terms; what a map's writing keeps. -/
namespace Go.Proofs.Ytoafleckcjanaaa
open Go.RowKit Go.Deep Go.Maps

/-- A node of a well-formed term. -/
structure Nj (w : World) (val : Value) (s v : Int) (k : Fo) : Prop where
  node : NodeIs w 0 w.heap.size val s v k
  okn : okN s v (flen k) = true
  ok : fok k = true
  small : fsz k ≤ 1000
theorem Nj.next {w w2 : World} {val : Value} {s v : Int} {k : Fo} (h : Nj w val s v k) (hb : Below w.heap.size w w2) : Nj w2 val s v k :=
  ⟨(h.node.below hb).mono (Nat.le_refl _) hb.size, h.okn, h.ok, h.small⟩
theorem Nj.shape {w : World} {val : Value} {s v : Int} {k : Fo} (h : Nj w val s v k) : Shape s v k := shape_of h.okn h.ok

set_option maxRecDepth 100000 in
set_option maxHeartbeats 1000000 in
theorem sameNodeI_any {s v : Int} {k : Fo} {val : Value} {s' v' : Int} {k' : Fo} {val' : Value} {w : World} (h : Nj w val s v k) (h' : Nj w val' s' v' k') :
    Calls Try.prog 98 #[val, val'] w fun e w' => e = .returned (.bool (teq s v k s' v' k')) ∧ Below w.heap.size w w' := by
  have HT := Lib.hid (txt_teq h.shape h'.shape)
  have HO := Lib.hid h.okn
  have HO' := Lib.hid h'.okn
  have HF := Lib.hid h.ok
  have HF' := Lib.hid h'.ok
  have hz := h.small
  have hz' := h'.small
  rcases h.node with ⟨rfl, rfl, rfl⟩ | ⟨hs, a, c, rfl, hl⟩
  · rcases h'.node with ⟨rfl, rfl, rfl⟩ | ⟨hs', a', c', rfl, hl'⟩
    · clear h h'
      go_enter Try.func98, Try.ntmps98
      go_wp2_with fail
      refine upon_method 148 (by kernel_rfl) (by kernel_rfl) ?_
      go_simp
      with_reducible refine (varTx_any v HO.out _).mono ?_
      rintro e w2 ⟨rfl, hb2⟩
      go_wp2_with fail
      refine upon_method 148 (by kernel_rfl) (by kernel_rfl) ?_
      go_simp
      with_reducible refine (varTx_any v' HO'.out _).mono ?_
      rintro e w3 ⟨rfl, hb3⟩
      go_wp2_with fail
      go_ret
      exact ⟨by rw [HT.out]; rfl, hb2.trans (hb3.mono hb2.size)⟩
    · have HL' := Lib.hid hl'
      obtain rfl : v' = 0 := ((okN_iff _ _ _).1 HO'.out).2.2 hs'
      have HS' := Lib.hid hs'
      clear h h' hl' hs'
      go_enter Try.func98, Try.ntmps98
      go_wp2_with fail
      refine upon_method 148 (by kernel_rfl) (by kernel_rfl) ?_
      go_simp
      with_reducible refine (varTx_any v HO.out _).mono ?_
      rintro e w2 ⟨rfl, hb2⟩
      have HB2 := Lib.hid hb2
      clear hb2
      go_wp2_with fail
      refine upon_method 165 (by kernel_rfl) (by kernel_rfl) ?_
      go_simp
      with_reducible refine (symText_any (fsz k') s' a' c' k' _ ((HL'.out.below HB2.out).mono (Nat.le_refl _) HB2.out.size) HS'.out HO'.out HF'.out (Nat.le_refl _) (by omega)).mono ?_
      rintro e w3 ⟨rfl, hb3⟩
      go_wp2_with fail
      go_ret
      exact ⟨by rw [HT.out]; rfl, HB2.out.trans (hb3.mono HB2.out.size)⟩
  · have HL := Lib.hid hl
    obtain rfl : v = 0 := ((okN_iff _ _ _).1 HO.out).2.2 hs
    have HS := Lib.hid hs
    rcases h'.node with ⟨rfl, rfl, rfl⟩ | ⟨hs', a', c', rfl, hl'⟩
    · clear h h' hl hs
      go_enter Try.func98, Try.ntmps98
      go_wp2_with fail
      refine upon_method 165 (by kernel_rfl) (by kernel_rfl) ?_
      go_simp
      with_reducible refine (symText_any (fsz k) s a c k _ HL.out HS.out HO.out HF.out (Nat.le_refl _) (by omega)).mono ?_
      rintro e w2 ⟨rfl, hb2⟩
      have HB2 := Lib.hid hb2
      clear hb2
      go_wp2_with fail
      refine upon_method 148 (by kernel_rfl) (by kernel_rfl) ?_
      go_simp
      with_reducible refine (varTx_any v' HO'.out _).mono ?_
      rintro e w3 ⟨rfl, hb3⟩
      go_wp2_with fail
      go_ret
      exact ⟨by rw [HT.out]; rfl, HB2.out.trans (hb3.mono HB2.out.size)⟩
    · have HL' := Lib.hid hl'
      obtain rfl : v' = 0 := ((okN_iff _ _ _).1 HO'.out).2.2 hs'
      have HS' := Lib.hid hs'
      clear h h' hl hl' hs hs'
      go_enter Try.func98, Try.ntmps98
      go_wp2_with fail
      refine upon_method 165 (by kernel_rfl) (by kernel_rfl) ?_
      go_simp
      with_reducible refine (symText_any (fsz k) s a c k _ HL.out HS.out HO.out HF.out (Nat.le_refl _) (by omega)).mono ?_
      rintro e w2 ⟨rfl, hb2⟩
      have HB2 := Lib.hid hb2
      clear hb2
      go_wp2_with fail
      refine upon_method 165 (by kernel_rfl) (by kernel_rfl) ?_
      go_simp
      with_reducible refine (symText_any (fsz k') s' a' c' k' _ ((HL'.out.below HB2.out).mono (Nat.le_refl _) HB2.out.size) HS'.out HO'.out HF'.out (Nat.le_refl _) (by omega)).mono ?_
      rintro e w3 ⟨rfl, hb3⟩
      go_wp2_with fail
      go_ret
      exact ⟨by rw [HT.out]; rfl, HB2.out.trans (hb3.mono HB2.out.size)⟩

set_option maxRecDepth 100000 in
set_option maxHeartbeats 400000 in
theorem signOfI_any {s v : Int} {k : Fo} {nv : Value} {w : World} (h : Nj w nv s v k) : Calls Try.prog 120 #[nv] w fun e w' => e = .returned (.int .i64 s) ∧ Below w.heap.size w w' := by
  have hta := assert_var
  have htb := assert_sym
  rcases h.node with ⟨rfl, rfl, rfl⟩ | ⟨hs, a, c, rfl, hn⟩
  · clear h
    go_enter Try.func120, Try.ntmps120
    go_wp2_with fail
    go_ret
    exact ⟨rfl, Below.refl _ _⟩
  · clear hn h
    go_enter Try.func120, Try.ntmps120
    go_wp2_with fail
    go_ret
    exact ⟨rfl, (Below.refl _ _).alloc (Nat.le_refl _) _⟩

/-- What a map's writing keeps. -/
structure Kp (base : Nat) (w w' : World) : Prop where
  low : Below base w w'
  cell : ∀ q x, w.cell? q = some x → w'.cell? q = some x
theorem Kp.refl (base : Nat) (w : World) : Kp base w w := ⟨Below.refl _ _, fun _ _ h => h⟩
theorem Kp.trans {base : Nat} {w w' w2 : World} (h : Kp base w w') (h2 : Kp base w' w2) : Kp base w w2 := ⟨h.low.trans h2.low, fun q x hq => h2.cell q x (h.cell q x hq)⟩
theorem Kp.of {base : Nat} {w w' : World} (h : Below w.heap.size w w') (hb : base ≤ w.heap.size) : Kp base w w' := ⟨h.mono hb, fun _ _ hq => cell_low h hq⟩
theorem Nj.kp {base : Nat} {w w2 : World} {val : Value} {s v : Int} {k : Fo} (h : Nj w val s v k) (hb : Kp base w w2) : Nj w2 val s v k :=
  ⟨(h.node.keep hb.cell).mono (Nat.le_refl _) hb.low.size, h.okn, h.ok, h.small⟩
theorem NSl.kp {base : Nat} {w w2 : World} {a : Option Addr} {k : Fo} (h : NSl w 0 w.heap.size a k) (hb : Kp base w w2) : NSl w2 0 w2.heap.size a k := by
  rcases h with h | ⟨b, o, e, h⟩
  · exact .inl h
  · exact .inr ⟨b, o, e, (h.keep hb.cell).mono (Nat.le_refl _) hb.low.size⟩
/-- The same map by another list. -/
theorem MapIs.congr {w : World} {b : Nat} {bs bs' : List Bd} (h : MapIs w b bs) (hs : ∀ x, sv bs' x = sv bs x) (hl : bs'.length = bs.length) : MapIs w b bs' := by
  obtain ⟨n, D, hm, hn, hx⟩ := h
  exact ⟨n, D, hm, by omega, fun x hw => by rw [hs x]; exact hx x hw⟩
end Go.Proofs.Ytoafleckcjanaaa

/-! FW: follow: a link done within a term in memory of its own. -/
namespace Go.Proofs.Ytoafleckcjanaaa
open Go.RowKit Go.Deep Go.Maps

theorem KeepsOthers.of_low {w w' : World} (h : Below w.heap.size w w') : KeepsOthers w w' := ⟨h.size, fun k _ hk _ => (h.block k (Array.getElem?_eq_some_iff.1 hk).1).trans hk⟩
/-- One node alone, in a box of its own. -/
abbrev one3 (s v : Int) (k : Fo) : Fo := .node 0 0 (s, v) k .nil
/-- What follow leaves: r is what comes of it. -/
def FwPost (r : Option Tm3) (wD : World) (e : Nat) (P0 : Nat → Prop) (w : World) (en : Ending) (w' : World) : Prop :=
  ∃ t, en = .returned (.bool t) ∧ Below wD.heap.size wD w' ∧ KeepsOthers w w' ∧ (∀ b, b < w.heap.size → b ≠ e → ¬ P0 b → w'.heap[b]? = w.heap[b]?) ∧ (t = false → r = none) ∧
    (t = true → ∃ s v k P, r = some (s, v, k) ∧ OwR w' (one3 s v k) e 0 P ∧ ¬ P e ∧ (∀ x, P x → P0 x ∨ (w.heap.size ≤ x ∧ x < w'.heap.size)) ∧ e < w'.heap.size)
theorem OwR.low {w w' : World} {k : Fo} {b o : Nat} {P : Nat → Prop} (h : OwR w k b o P) (hP : ∀ x, P x → x < w.heap.size) (hb : b < w.heap.size) (hl : Below w.heap.size w w') : OwR w' k b o P :=
  h.keep fun q hq => by
    have hlt : q.block < w.heap.size := by
      rcases hq with hq | ⟨hq, _⟩
      · exact hP _ hq
      · omega
    exact ⟨hl.cell hlt, hl.frozen hlt⟩
theorem OwR.sl_kids {w : World} {x y : Nat} {s v : Int} {k r : Fo} {b o : Nat} {P : Nat → Prop} (h : OwR w (.node x y (s, v) k r) b o P) (hP : ∀ x, P x → x < w.heap.size) : ∃ a c, w.cell? ⟨b, o, none⟩ = some (.int .i64 s) ∧ w.cell? ⟨b, o + 1, none⟩ = some (.int .i64 v) ∧ w.cell? ⟨b, o + 2, none⟩ = some (.slice a (flen k) c) ∧ Sl w 0 w.heap.size a k ∧ w.frozen? ⟨b, o, none⟩ = false ∧ w.frozen? ⟨b, o + 1, none⟩ = false ∧ w.frozen? ⟨b, o + 2, none⟩ = false := by
  obtain ⟨⟨c0, c1⟩, ⟨f0, f1, f2⟩, a, c, P1, P2, g1, _, _, c2, hk, _⟩ := h
  refine ⟨a, c, c0, c1, c2, ?_, f0, f1, f2⟩
  rcases hk with hk | ⟨b', P3, e, h1, _, h3, h4⟩
  · exact .inl hk
  · exact .inr ⟨b', 0, e, h4.row (fun x hx => ⟨Nat.zero_le _, hP x (g1 x (h3 x hx))⟩) (Nat.zero_le _) (hP _ (g1 _ h1))⟩
/-- What the cells of the part at the way's end hold, wherever memory is added. -/
def PartIs (w : World) (b o : Nat) (s v : Int) (k : Fo) : Prop := ∃ a c, w.cell? ⟨b, o, none⟩ = some (.int .i64 s) ∧ w.cell? ⟨b, o + 1, none⟩ = some (.int .i64 v) ∧ w.cell? ⟨b, o + 2, none⟩ = some (.slice a (flen k) c) ∧ Sl w 0 w.heap.size a k ∧ w.frozen? ⟨b, o, none⟩ = false ∧ w.frozen? ⟨b, o + 1, none⟩ = false ∧ w.frozen? ⟨b, o + 2, none⟩ = false
theorem PartIs.low {w w' : World} {b o : Nat} {s v : Int} {k : Fo} (h : PartIs w b o s v k) (hl : Below w.heap.size w w') : PartIs w' b o s v k := by
  obtain ⟨a, c, c0, c1, c2, hs, f0, f1, f2⟩ := h
  have hlt : b < w.heap.size := World.block_lt_of_cell? _ _ c0
  exact ⟨a, c, cell_low hl c0, cell_low hl c1, cell_low hl c2, Sl.next hs hl, (hl.frozen hlt).trans f0, (hl.frozen hlt).trans f1, (hl.frozen hlt).trans f2⟩
theorem way_low {w w' : World} (hl : Below w.heap.size w w') : ∀ {ps : List Int} {b o b' o' : Nat}, Way w ps b o b' o' → Way w' ps b o b' o'
  | [], _, _, _, _, h => h
  | _ :: _, _, _, _, _, ⟨b1, n, c, h1, h2, h3⟩ => ⟨b1, n, c, cell_low hl h1, h2, way_low hl h3⟩

set_option maxRecDepth 100000 in
set_option maxHeartbeats 8000000 in
theorem follow_any (es : List Eqd) (A : Option Addr) (C : Nat) (wD w : World) (s v : Int) (k : Fo) (e : Nat) (P : Nat → Prop) (eq : Int) (back : Bool) (pA : Option Addr) (pC : Nat) (place : List Int) (B : Option Addr) (D : Nat) (bs : List Bd)
    (hq : QSl wD A es) (hB : Below wD.heap.size wD w) (hok : okEs es = true) (hek : okT3 64 (s, v, k) = true) (ho : OwR w (one3 s v k) e 0 P) (hPe : ¬ P e) (he1 : wD.heap.size ≤ e) (he2 : e < w.heap.size) (hP : ∀ x, P x → wD.heap.size ≤ x ∧ x < w.heap.size)
    (hp : ISl wD 0 wD.heap.size pA place) (hpl : place.length ≤ 1048576) (hb : BSl wD 0 wD.heap.size B bs) (hbl : bs.length ≤ 1048576) :
    Calls Try.prog 74 #[.slice A es.length C, .pointer (some ⟨e, 0, none⟩), .agg #[.int .i64 eq, .bool back, .slice pA place.length pC, .slice B bs.length D]] w (FwPost (lk1 es (s, v, k) (eq, back, place, bs)) wD e P w) := by
  have hbx : Below w.heap.size w (w.alloc (.cells #[.int .i64 eq, .bool back, .slice pA place.length pC, .slice B bs.length D] 43)) := box_low _ _
  have HBX := Lib.hid hbx
  have HBW := Lib.hid hB
  have HQ := Lib.hid (hq.next hB)
  have HPP := Lib.hid (ISl.next hp hB)
  have HBS := Lib.hid (BSl.next (BSl.next hb hB) hbx)
  have HO := Lib.hid ho
  have HPB := Lib.hid hP
  have HPE := Lib.hid hPe
  have HOK := Lib.hid hok
  have HEK := Lib.hid hek
  have hel := ((okEs_iff es).1 hok).1
  have hwD := hB.size
  have HFIN : Hid (∀ w', Below w.heap.size w w' → lk1 es (s, v, k) (eq, back, place, bs) = none → FwPost (lk1 es (s, v, k) (eq, back, place, bs)) wD e P w (.returned (.bool false)) w') := fun w' h1 h2 =>
    ⟨false, rfl, HBW.out.trans (h1.mono hwD), KeepsOthers.of_low h1, fun b hb _ _ => h1.block b hb, fun _ => h2, fun h => by cases h⟩
  have cx : ∀ i, (w.alloc (.cells #[.int .i64 eq, .bool back, .slice pA place.length pC, .slice B bs.length D] 43)).cell? ⟨w.heap.size, i, none⟩ = #[Value.int .i64 eq, .bool back, .slice pA place.length pC, .slice B bs.length D][i]? := fun i => by rw [World.cell?_alloc_at _ _ _ _ (by simp)]
  have HX0 : Hid ((w.alloc (.cells #[.int .i64 eq, .bool back, .slice pA place.length pC, .slice B bs.length D] 43)).cell? ⟨w.heap.size, 0, none⟩ = some (.int .i64 eq)) := cx 0
  have HX1 : Hid ((w.alloc (.cells #[.int .i64 eq, .bool back, .slice pA place.length pC, .slice B bs.length D] 43)).cell? ⟨w.heap.size, 1, none⟩ = some (.bool back)) := cx 1
  have HX2 : Hid ((w.alloc (.cells #[.int .i64 eq, .bool back, .slice pA place.length pC, .slice B bs.length D] 43)).cell? ⟨w.heap.size, 2, none⟩ = some (.slice pA place.length pC)) := cx 2
  clear hbx hq hB hp hb ho hP hPe hok hek cx
  go_enter Try.func74, Try.ntmps74
  go_wp2_with fail
  with_reducible refine (substOf_any bs B D 64 _ HBS.out (by omega) (by omega) (by omega)).mono ?_
  rintro en w1 ⟨hb1, hcase⟩
  have HB1 := Lib.hid (HBX.out.trans (hb1.mono HBX.out.size))
  have HL0 := Lib.hid (cell_low hb1 HX0.out)
  have HL1 := Lib.hid (cell_low hb1 HX1.out)
  have HL2 := Lib.hid (cell_low hb1 HX2.out)
  have hs1 := HB1.out.size
  clear hb1 HX0 HX1 HX2 HBS HBX
  rcases hcase with ⟨hso, mb, rfl, hmb, hmap⟩ | ⟨hso, rfl⟩
  rotate_left
  · have HF := Lib.hid (HFIN.out w1 HB1.out (lk1_sok hso))
    clear hso
    go_wp2_with fail
    go_ret
    exact HF.out
  have HSO := Lib.hid hso
  have HM := Lib.hid hmap
  clear hso hmap
  have l0 := HL0.out
  by_cases hin : 0 ≤ eq ∧ eq < (es.length : Int)
  rotate_left
  · have HF := Lib.hid (HFIN.out w1 HB1.out (lk1_in hin))
    by_cases hn : eq < 0
    · have d1 : decide (eq < 0) = true := by simpa using hn
      go_wp2_with fail
      go_ret
      exact HF.out
    · have d1 : decide (eq < 0) = false := by simpa using hn
      have d2 : decide (eq ≥ (es.length : Int)) = true := by simp; omega
      go_wp2_with fail
      go_ret
      exact HF.out
  obtain ⟨i, rfl⟩ : ∃ i : Nat, eq = i := ⟨eq.toNat, by omega⟩
  have d1 : decide ((i : Int) < 0) = false := by simp
  have d2 : decide ((i : Int) ≥ (es.length : Int)) = false := by simp; omega
  have l2 := HL2.out
  have HO1 := Lib.hid (HO.out.low (fun x hx => (HPB.out x hx).2) he2 HB1.out)
  have HP1 := Lib.hid (HPP.out.next HB1.out)
  go_wp2_with fail
  with_reducible refine (partOf_any s v k 0 0 .nil e 0 P pA pC place w1 HO1.out HP1.out hpl).mono ?_
  rintro en w2 ⟨rfl, hcase⟩
  rcases hcase with ⟨hfat, rfl⟩ | ⟨b', o', s', v', k', x', y', r', P', hfat, rfl, hway, hpart, hsub⟩
  · obtain ⟨x, hx⟩ : ∃ x, es[i]? = some x := ⟨es[i], List.getElem?_eq_getElem (by omega)⟩
    have HF := Lib.hid (HFIN.out w2 HB1.out (by rw [lk1_at hx HSO.out]; exact lkAt_none hfat))
    clear hx hfat l0 l2 d1 d2
    go_wp2_with fail
    go_ret
    exact HF.out
  obtain ⟨⟨⟨es1, ev1, ek1⟩, es2, ev2, ek2⟩, hx⟩ : ∃ x, es[i]? = some x := ⟨es[i], List.getElem?_eq_getElem (by omega)⟩
  obtain ⟨qb, rfl, hqc⟩ : ∃ qb, A = some ⟨qb, 0, none⟩ ∧ ∀ (i : Nat) (x : Eqd), es[i]? = some x → ∃ n1 n2, w2.cell? ⟨qb, i * 2, none⟩ = some n1 ∧ w2.cell? ⟨qb, i * 2 + 1, none⟩ = some n2 ∧ NodeIs w2 0 w2.heap.size n1 x.1.1 x.1.2.1 x.1.2.2 ∧ NodeIs w2 0 w2.heap.size n2 x.2.1 x.2.2.1 x.2.2.2 := by
    rcases HQ.out.next HB1.out with h | ⟨b, h1, h2⟩
    · rw [h] at hx; simp at hx
    · exact ⟨b, h1, h2⟩
  obtain ⟨n1, n2, q1, q2, hn1, hn2⟩ := hqc i _ hx
  dsimp only at hn1 hn2
  obtain ⟨t1, u1, rfl⟩ : ∃ t u, n1 = .iface t u := by rcases hn1 with ⟨_, _, rfl⟩ | ⟨_, _, _, rfl, _⟩ <;> exact ⟨_, _, rfl⟩
  obtain ⟨t2, u2, rfl⟩ : ∃ t u, n2 = .iface t u := by rcases hn2 with ⟨_, _, rfl⟩ | ⟨_, _, _, rfl, _⟩ <;> exact ⟨_, _, rfl⟩
  obtain ⟨fs, fv, fk, tf, uf, gs, gv, gk, tg, ug, hsides, hsd, hfn, hgn⟩ : ∃ fs fv fk tf uf gs gv gk tg ug, sidesR ((es1, ev1, ek1), es2, ev2, ek2) back = ((fs, fv, fk), gs, gv, gk) ∧ (if back = true then (#[.iface t2 u2, .iface t1 u1] : Array Value) else #[.iface t1 u1, .iface t2 u2]) = #[.iface tf uf, .iface tg ug] ∧ NodeIs w2 0 w2.heap.size (.iface tf uf) fs fv fk ∧ NodeIs w2 0 w2.heap.size (.iface tg ug) gs gv gk := by
    cases back with
    | true => exact ⟨es2, ev2, ek2, t2, u2, es1, ev1, ek1, t1, u1, rfl, rfl, hn2, hn1⟩
    | false => exact ⟨es1, ev1, ek1, t1, u1, es2, ev2, ek2, t2, u2, rfl, rfl, hn1, hn2⟩
  have hso2 := sides_ok HOK.out hx back
  rw [hsides] at hso2
  have HSO2 := Lib.hid hso2
  have HLK : Hid (lk1 es (s, v, k) ((i : Int), back, place, bs) = lkAt (s, v, k) place (put3 (sv bs) (fs, fv, fk)) (put3 (sv bs) (gs, gv, gk))) := by rw [Hid, lk1_at hx HSO.out, hsides]
  have HSD := Lib.hid hsd
  have HFN := Lib.hid hfn
  have HGN := Lib.hid hgn
  have HFAT := Lib.hid hfat
  have HWAY := Lib.hid hway
  have hek := (okW_iff _ _ _ _).1 HEK.out
  dsimp only at hek
  have hfo := fat_ok place s v k hek.1 hek.2.1 hfat
  have hokp : okW s' v' k' 64 = true := (okW_iff _ _ _ _).2 ⟨hfo.1, hfo.2.1, by have := hfo.2.2; have := hek.2.2; omega⟩
  have HOKP := Lib.hid hokp
  have HOP : Hid (PartIs w2 b' o' s' v' k') := hpart.sl_kids (fun x hx => Nat.lt_of_lt_of_le (HPB.out x (hsub x hx)).2 hs1)
  have l1 := HL1.out
  have g1 : (0 : Int) ≤ (i : Int) := by omega
  have g2 : (i : Int) < (es.length : Int) := by omega
  have hu0 : ∀ u : After w2.heap.size w2, u.world.cell? ⟨w.heap.size, 0, none⟩ = some (.int .i64 (i : Int)) := fun u => cell_low u.below l0
  have hu1 : ∀ u : After w2.heap.size w2, u.world.cell? ⟨w.heap.size, 1, none⟩ = some (.bool back) := fun u => cell_low u.below l1
  have hu2 : ∀ u : After w2.heap.size w2, u.world.cell? ⟨qb, i * 2, none⟩ = some (.iface t1 u1) := fun u => cell_low u.below q1
  have hu3 : ∀ u : After w2.heap.size w2, u.world.cell? ⟨qb, i * 2 + 1, none⟩ = some (.iface t2 u2) := fun u => cell_low u.below q2
  clear l0 l1 l2 q1 q2 hn1 hn2 hqc hsd hfn hgn hsides hso2 hfat hway hx hek hfo hokp hpart hsub d1 d2 HL0 HL1 HL2
  go_wp2_with fail
  refine wp_region_mix (fun w' => ∃ u : After w2.heap.size w2, w' = u.world) [] [(0, 0), (1, 0), (2, 0), (3, 0), (4, 0), (5, 0), (6, 0), (7, 1), (8, 0), (9, 0), (10, 0), (11, 0), (12, 0)] (by kernel_rfl) (by kernel_rfl) ⟨⟨_, (Below.refl _ _).drew⟩, rfl⟩ ?_
  have HBD : Hid (Below w2.heap.size w2 w2.drew) := (Below.refl _ _).drew
  generalize w2.drew = wd at *
  iterate 7
    refine mix_see rfl (fun K hK => ?_)
    go_simp
    refine hK _ ?_
    clear hK K
  clear hu0 hu1 hu2 hu3
  refine mix_hold rfl (fun K hK => ?_)
  go_simp
  with_reducible refine (sides_any t1 t2 u1 u2 back _).mono ?_
  rintro en wp ⟨he, hbp⟩
  rw [HSD.out] at he
  subst he
  have hbd2 := HBD.out.trans (hbp.mono HBD.out.size)
  refine hK _ _ ⟨⟨_, hbd2⟩, rfl⟩ ?_
  clear hK K hbp HBD
  iterate 5
    refine mix_see rfl (fun K hK => ?_)
    go_simp
    refine hK _ ?_
    clear hK K
  refine mix_end ?_
  have HB3 := Lib.hid (HB1.out.trans (hbd2.mono hs1))
  have hsp := hbd2.size
  have HB23 := Lib.hid hbd2
  have HPART3 := Lib.hid (HOP.out.low hbd2)
  have HM3 := Lib.hid (HM.out.below hbd2)
  have HFN3 := Lib.hid ((HFN.out.below hbd2).mono (Nat.le_refl _) hsp)
  have HGN3 := Lib.hid ((HGN.out.below hbd2).mono (Nat.le_refl _) hsp)
  clear hbd2 HM HFN HGN HOP
  obtain ⟨pa, pc, p0, p1, p2, hpsl, _, _, _⟩ := HPART3.out
  have HPS := Lib.hid hpsl
  clear hpsl
  go_wp2_with fail
  with_reducible refine (nodeOf_any s' v' pa pc k' 64 _ HPS.out (by omega) (by omega)).mono ?_
  rintro en w4 ⟨nv4, he, hb4, hyes⟩
  rw [HOKP.out] at he
  subst he
  have HN4 := Lib.hid ((hyes HOKP.out).mono (lo' := 0) (Nat.zero_le _) (Nat.le_refl _))
  have HB4 := Lib.hid (HB3.out.trans (hb4.mono HB3.out.size))
  have HB24 := Lib.hid (HB23.out.trans (hb4.mono hsp))
  have HM4 := Lib.hid (HM3.out.below hb4)
  have HFN4 := Lib.hid ((HFN3.out.below hb4).mono (Nat.le_refl _) hb4.size)
  have HGN4 := Lib.hid ((HGN3.out.below hb4).mono (Nat.le_refl _) hb4.size)
  have HPART4 := Lib.hid (HPART3.out.low hb4)
  obtain ⟨t4, u4, rfl⟩ : ∃ t u, nv4 = .iface t u := by rcases HN4.out with ⟨_, _, rfl⟩ | ⟨_, _, _, rfl, _⟩ <;> exact ⟨_, _, rfl⟩
  clear hb4 hyes p0 p1 p2 HB3 HM3 HFN3 HGN3 HPART3 HPS
  obtain ⟨hfk1, hfk2, hfk3⟩ := (okW_iff _ _ _ _).1 HSO2.out.1
  obtain ⟨hgk1, hgk2, hgk3⟩ := (okW_iff _ _ _ _).1 HSO2.out.2
  dsimp only at hfk1 hfk2 hfk3 hgk1 hgk2 hgk3
  go_wp2_with fail
  with_reducible refine (apply_any bs mb fs fv fk (.iface tf uf) _ HFN4.out HM4.out hfk1 hfk2 (by omega)).mono ?_
  rintro en w5 ⟨nv5, rfl, hb5, hn5⟩
  have HN5 : Hid (Nj w5 nv5 (tsub (sv bs) fs fv fk).1 (tsub (sv bs) fs fv fk).2.1 (tsub (sv bs) fs fv fk).2.2) := by
    have h1 := put3_ok HSO.out (t := (fs, fv, fk)) hfk1 hfk2
    exact ⟨hn5, h1.1, h1.2, put3_small HSO.out HSO2.out.1⟩
  have HN4j : Hid (Nj w5 (.iface t4 u4) s' v' k') := by
    obtain ⟨h1, h2, h3⟩ := (okW_iff _ _ _ _).1 HOKP.out
    exact ⟨(HN4.out.below hb5).mono (Nat.le_refl _) hb5.size, h1, h2, by omega⟩
  have HB5 := Lib.hid (HB4.out.trans (hb5.mono HB4.out.size))
  have HB25 := Lib.hid (HB24.out.trans (hb5.mono HB24.out.size))
  have HM5 := Lib.hid (HM4.out.below hb5)
  have HGN5 := Lib.hid ((HGN4.out.below hb5).mono (Nat.le_refl _) hb5.size)
  have HPART5 := Lib.hid (HPART4.out.low hb5)
  obtain ⟨t5, u5, rfl⟩ : ∃ t u, nv5 = .iface t u := by rcases hn5 with ⟨_, _, rfl⟩ | ⟨_, _, _, rfl, _⟩ <;> exact ⟨_, _, rfl⟩
  clear hb5 hn5 HB4 HM4 HFN4 HGN4 HPART4 HN4
  go_wp2_with fail
  with_reducible refine (sameNodeI_any HN4j.out HN5.out).mono ?_
  rintro en w6 ⟨rfl, hb6⟩
  have HB6 := Lib.hid (HB5.out.trans (hb6.mono HB5.out.size))
  have HB26 := Lib.hid (HB25.out.trans (hb6.mono HB25.out.size))
  have HM6 := Lib.hid (HM5.out.below hb6)
  have HGN6 := Lib.hid ((HGN5.out.below hb6).mono (Nat.le_refl _) hb6.size)
  have HPART6 := Lib.hid (HPART5.out.low hb6)
  clear hb6 HB5 HM5 HGN5 HPART5 HN4j HN5
  obtain ⟨te, hte⟩ : ∃ te, te = teq s' v' k' (tsub (sv bs) fs fv fk).1 (tsub (sv bs) fs fv fk).2.1 (tsub (sv bs) fs fv fk).2.2 := ⟨_, rfl⟩
  rw [← hte]
  have HTE := Lib.hid hte
  clear hte
  cases te with
  | false =>
    have HF := Lib.hid (HFIN.out w6 HB6.out (by rw [HLK.out]; exact lkAt_other HFAT.out HTE.out.symm))
    go_wp2_with fail
    go_ret
    exact HF.out
  | true =>
    go_wp2_with fail
    with_reducible refine (apply_any bs mb gs gv gk (.iface tg ug) _ HGN6.out HM6.out hgk1 hgk2 (by omega)).mono ?_
    rintro en w7 ⟨nv7, rfl, hb7, hn7⟩
    have HG3 := put3_ok HSO.out (t := (gs, gv, gk)) hgk1 hgk2
    have hgsz := put3_small HSO.out HSO2.out.2
    unfold put3 at HG3 hgsz
    dsimp only at HG3 hgsz
    obtain ⟨⟨os, ov, ok⟩, hout⟩ : ∃ o, fput s v k place (put3 (sv bs) (gs, gv, gk)) = some o := by
      have := fput_there place s v k (put3 (sv bs) (gs, gv, gk))
      rw [HFAT.out] at this
      exact Option.isSome_iff_exists.1 this
    have HOUT : Hid (lk1 es (s, v, k) ((i : Int), back, place, bs) = if okT3 64 (os, ov, ok) = true then some (os, ov, ok) else none) := by rw [Hid, HLK.out]; exact lkAt_out HFAT.out HTE.out.symm hout
    unfold put3 at hout
    dsimp only at hout
    obtain ⟨zs, zv, zk, hz⟩ : ∃ zs zv zk, tsub (sv bs) gs gv gk = (zs, zv, zk) := ⟨_, _, _, rfl⟩
    rw [hz] at hout hn7 HG3 hgsz
    dsimp only at hn7 HG3 hgsz
    have HFP := Lib.hid hout
    have HN7 := Lib.hid hn7
    have HB7 := Lib.hid (HB6.out.trans (hb7.mono HB6.out.size))
    have HB27 := Lib.hid (HB26.out.trans (hb7.mono HB26.out.size))
    have HPART7 := Lib.hid (HPART6.out.low hb7)
    have hs7 := HB7.out.size
    clear hout hn7 hb7 hz HB6 HM6 HGN6 HPART6
    have HEND : Hid (∀ (a7 : Option Addr) (c7 : Nat) (w8 : World), Below w7.heap.size w7 w8 → TXo w8 w7.heap.size w8.heap.size a7 zk → OwR (st3 w8 b' o' zs zv a7 (flen zk) c7) (one3 os ov ok) e 0 (fun x => P x ∨ (w7.heap.size ≤ x ∧ x < w8.heap.size)) ∧ Below wD.heap.size wD (st3 w8 b' o' zs zv a7 (flen zk) c7) ∧ KeepsOthers w (st3 w8 b' o' zs zv a7 (flen zk) c7) ∧ ∀ b, b < w.heap.size → b ≠ e → ¬ P b → (st3 w8 b' o' zs zv a7 (flen zk) c7).heap[b]? = w.heap[b]?) := by
      intro a7 c7 w8 hb8 htx
      have hB8 := HB7.out.trans (hb8.mono hs7)
      have ho8 := HO.out.low (fun x hx => (HPB.out x hx).2) he2 hB8
      have hq8 : OwS w8 a7 zk fun x => w7.heap.size ≤ x ∧ x < w8.heap.size := ow_of_trs htx.2 htx.1
      have hbw : Below w2.heap.size w2 w8 := HB27.out.trans (hb8.mono HB27.out.size)
      have hw8 := way_low hbw HWAY.out
      obtain ⟨hpos, hput⟩ := OwR.put (c2 := c7) hq8 place (one3 s v k) e 0 P 0 0 0 s v k .nil (os, ov, ok) ho8 HPE.out (fun hx => by omega) (fun x hx hx2 => by have := (HPB.out x hx).2; omega) rfl (by simpa using hw8) HFP.out
      have hge : wD.heap.size ≤ b' := by
        rcases hpos with h | ⟨h, _⟩
        · exact (HPB.out _ h).1
        · omega
      refine ⟨hput, ?_, ?_, fun b hb hbe hbP => ?_⟩
      · unfold st3
        exact (((HBW.out.trans (hB8.mono hwD)).setCell hge _).setCell hge _).setCell hge _
      · unfold st3
        exact (((KeepsOthers.of_low hB8).trans (KeepsOthers.setCell _ _ _)).trans (KeepsOthers.setCell _ _ _)).trans (KeepsOthers.setCell _ _ _)
      · have hbb : b ≠ b' := fun h => by
          subst h
          rcases hpos with h | ⟨h, _⟩
          · exact hbP h
          · exact hbe h
        unfold st3
        rw [Below.heap_setCell _ _ _ _ hbb, Below.heap_setCell _ _ _ _ hbb, Below.heap_setCell _ _ _ _ hbb]
        exact hB8.block b hb
    rcases HN7.out with ⟨rfl, rfl, rfl⟩ | ⟨hzs, za, zc, rfl, hzn⟩
    · clear HN7
      go_wp2_with fail
      refine upon_method 147 (by kernel_rfl) (by kernel_rfl) ?_
      go_simp
      with_reducible refine (varTermO_any zv _).mono ?_
      rintro en w8 ⟨a7, c7, rfl, hb8, htx⟩
      obtain ⟨_, _, c0, c1, c2, _, f0, f1, f2⟩ := HPART7.out.low hb8
      obtain ⟨hown, hlowD, hko, hfar⟩ := HEND.out a7 c7 w8 hb8 htx
      have hsz8 := hb8.size
      unfold st3 at hown hlowD hko hfar
      obtain ⟨W9, hW9⟩ : ∃ W9, W9 = (((w8.setCell ⟨b', o', none⟩ (.int .i64 0)).setCell ⟨b', o' + 1, none⟩ (.int .i64 zv)).setCell ⟨b', o' + 2, none⟩ (.slice a7 (flen .nil) c7)) := ⟨_, rfl⟩
      rw [← hW9] at hown hlowD hko hfar
      have hszW : W9.heap.size = w8.heap.size := by rw [hW9]; simp
      have HQB : Hid (∀ x, (P x ∨ (w7.heap.size ≤ x ∧ x < w8.heap.size)) → wD.heap.size ≤ x ∧ x < W9.heap.size) := fun x hx => by
        rcases hx with hx | hx
        · have := HPB.out x hx; omega
        · omega
      have HQE : Hid (¬ (P e ∨ (w7.heap.size ≤ e ∧ e < w8.heap.size))) := fun hx => by
        rcases hx with hx | hx
        · exact HPE.out hx
        · omega
      obtain ⟨ra, rc, r0, r1, r2, rsl, _, _, _⟩ := hown.sl_kids (fun x hx => (HQB.out x hx).2)
      have HOWN := Lib.hid hown
      have HLD := Lib.hid hlowD
      have HKO := Lib.hid hko
      have HFAR := Lib.hid hfar
      have HRSL := Lib.hid rsl
      have heW : e < W9.heap.size := by omega
      rw [hW9] at r0 r1 r2
      simp only [Nat.zero_add] at r1 r2
      clear hown hlowD hko hfar rsl hb8 htx HEND
      go_wp2_with fail
      rw [← hW9]
      clear r0 r1 r2 c0 c1 c2 f0 f1 f2
      with_reducible refine (nodeOf_any os ov ra rc ok 64 _ HRSL.out (by omega) (by omega)).mono ?_
      rintro en w10 ⟨nv10, rfl, hb10, _⟩
      have HFF : Hid (FwPost (lk1 es (s, v, k) ((i : Int), back, place, bs)) wD e P w (.returned (.bool (okW os ov ok 64))) w10) := by
        refine ⟨_, rfl, HLD.out.trans (hb10.mono (HLD.out.size)), HKO.out.trans (KeepsOthers.of_low hb10), fun b hb hbe hbP => (hb10.block b (by omega)).trans (HFAR.out b hb hbe hbP), fun h => ?_, fun h => ⟨os, ov, ok, _, ?_, HOWN.out.low (fun x hx => (HQB.out x hx).2) heW hb10, HQE.out, fun x hx => hx.elim .inl (fun h => .inr ⟨by omega, Nat.lt_of_lt_of_le (HQB.out x (.inr h)).2 hb10.size⟩), Nat.lt_of_lt_of_le heW hb10.size⟩⟩
        · rw [HOUT.out, if_neg (by simp [okT3, h])]
        · rw [HOUT.out, if_pos (by simp [okT3, h])]
      clear hb10
      go_wp2_with fail
      go_ret
      exact HFF.out
    · have hzv : zv = 0 := ((okN_iff _ _ _).1 HG3.1).2.2 hzs
      subst hzv
      have HZN := Lib.hid hzn
      clear HN7 hzn
      go_wp2_with fail
      refine upon_method 164 (by kernel_rfl) (by kernel_rfl) ?_
      go_simp
      with_reducible refine (symTermO_any (fsz zk) zs za zc zk _ HZN.out HG3.2 (Nat.le_refl _) (by omega)).mono ?_
      rintro en w8 ⟨a7, c7, rfl, hb8, htx⟩
      obtain ⟨_, _, c0, c1, c2, _, f0, f1, f2⟩ := HPART7.out.low hb8
      obtain ⟨hown, hlowD, hko, hfar⟩ := HEND.out a7 c7 w8 hb8 htx
      have hsz8 := hb8.size
      unfold st3 at hown hlowD hko hfar
      obtain ⟨W9, hW9⟩ : ∃ W9, W9 = (((w8.setCell ⟨b', o', none⟩ (.int .i64 zs)).setCell ⟨b', o' + 1, none⟩ (.int .i64 0)).setCell ⟨b', o' + 2, none⟩ (.slice a7 (flen zk) c7)) := ⟨_, rfl⟩
      rw [← hW9] at hown hlowD hko hfar
      have hszW : W9.heap.size = w8.heap.size := by rw [hW9]; simp
      have HQB : Hid (∀ x, (P x ∨ (w7.heap.size ≤ x ∧ x < w8.heap.size)) → wD.heap.size ≤ x ∧ x < W9.heap.size) := fun x hx => by
        rcases hx with hx | hx
        · have := HPB.out x hx; omega
        · omega
      have HQE : Hid (¬ (P e ∨ (w7.heap.size ≤ e ∧ e < w8.heap.size))) := fun hx => by
        rcases hx with hx | hx
        · exact HPE.out hx
        · omega
      obtain ⟨ra, rc, r0, r1, r2, rsl, _, _, _⟩ := hown.sl_kids (fun x hx => (HQB.out x hx).2)
      have HOWN := Lib.hid hown
      have HLD := Lib.hid hlowD
      have HKO := Lib.hid hko
      have HFAR := Lib.hid hfar
      have HRSL := Lib.hid rsl
      have heW : e < W9.heap.size := by omega
      rw [hW9] at r0 r1 r2
      simp only [Nat.zero_add] at r1 r2
      clear hown hlowD hko hfar rsl hb8 htx HEND
      go_wp2_with fail
      rw [← hW9]
      clear r0 r1 r2 c0 c1 c2 f0 f1 f2
      with_reducible refine (nodeOf_any os ov ra rc ok 64 _ HRSL.out (by omega) (by omega)).mono ?_
      rintro en w10 ⟨nv10, rfl, hb10, _⟩
      have HFF : Hid (FwPost (lk1 es (s, v, k) ((i : Int), back, place, bs)) wD e P w (.returned (.bool (okW os ov ok 64))) w10) := by
        refine ⟨_, rfl, HLD.out.trans (hb10.mono (HLD.out.size)), HKO.out.trans (KeepsOthers.of_low hb10), fun b hb hbe hbP => (hb10.block b (by omega)).trans (HFAR.out b hb hbe hbP), fun h => ?_, fun h => ⟨os, ov, ok, _, ?_, HOWN.out.low (fun x hx => (HQB.out x hx).2) heW hb10, HQE.out, fun x hx => hx.elim .inl (fun h => .inr ⟨by omega, Nat.lt_of_lt_of_le (HQB.out x (.inr h)).2 hb10.size⟩), Nat.lt_of_lt_of_le heW hb10.size⟩⟩
        · rw [HOUT.out, if_neg (by simp [okT3, h])]
        · rw [HOUT.out, if_pos (by simp [okT3, h])]
      clear hb10
      go_wp2_with fail
      go_ret
      exact HFF.out
end Go.Proofs.Ytoafleckcjanaaa
