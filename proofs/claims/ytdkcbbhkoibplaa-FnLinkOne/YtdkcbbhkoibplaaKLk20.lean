/- Several texts in one: G2, MJ, SZ, SHm, TI, UN0. -/
import Derived.Test.YtdkcbbhkoibplaaKLk19
import Derived.Test.YtdkcbbhkoibplaaKLk5
import Derived.Lib.Slices
import Derived.Test.YtdkcbbhkoibplaaKLk7
import Derived.Test.YtdkcbbhkoibplaaKLk4
import Derived.Test.YtdkcbbhkoibplaaProg
import Derived.Shelf.Lay
import Derived.Shelf.LaySoft
import Derived.Shelf.SlGeneric
import Derived.Ground.SlmcProg
import Derived.Shelf.SlMaps.Clone
import Derived.Test.YtdkcbbhkoibplaaKLk18

/-! G2: sameNode, signOf, kidsOf, a cut of a row of nodes, before. -/
namespace Go.Proofs.Ytdkcbbhkoibplaa
open Go.RowKit Go.Deep

/-- A node of a well-formed term. -/
structure Nd (w : World) (val : Value) (s v : Int) (k : Fo) : Prop where
  node : NodeC w 0 w.heap.size val s v k
  okn : okN s v (flen k) = true
  ok : fok k = true
  small : fsz k ≤ 100
theorem Nd.next {w w2 : World} {val : Value} {s v : Int} {k : Fo} (h : Nd w val s v k) (hb : Below w.heap.size w w2) : Nd w2 val s v k :=
  ⟨(h.node.below hb).mono (Nat.le_refl _) hb.size, h.okn, h.ok, h.small⟩
theorem Nd.shape {w : World} {val : Value} {s v : Int} {k : Fo} (h : Nd w val s v k) : Shape s v k := shape_of h.okn h.ok

theorem varTx_any (v : Int) (h : okN 0 v (flen (.nil : Fo)) = true) (w : World) :
    Calls Try.prog 143 #[.int .i64 v] w fun e w' => e = .returned (.string (str (tx 0 v .nil))) ∧ Below w.heap.size w w' := by
  have hv := ((okN_iff _ _ _).1 h).2.1 rfl
  rw [tx_var]
  exact (varText_any v hv.1 (by omega) w).mono fun e w' ⟨he, hw⟩ => ⟨he, hw ▸ Below.refl _ _⟩
theorem txt_teq {s v : Int} {k : Fo} {s' v' : Int} {k' : Fo} (h : Shape s v k) (h' : Shape s' v' k') : ((str (tx s v k)).toList == (str (tx s' v' k')).toList) = teq s v k s' v' k' := by
  have hl : ∀ l : List UInt8, (str l).toList = l := fun l => by simp [str]
  rw [hl, hl]
  have := tx_teq h h'
  cases ht : teq s v k s' v' k' with
  | true => exact beq_iff_eq.2 (this.2 ht)
  | false => exact beq_eq_false_iff_ne.2 fun he => by rw [this.1 he] at ht; cases ht

set_option maxRecDepth 100000 in
set_option maxHeartbeats 1000000 in
theorem sameNode_any {s v : Int} {k : Fo} {val : Value} {s' v' : Int} {k' : Fo} {val' : Value} {w : World} (h : Nd w val s v k) (h' : Nd w val' s' v' k') :
    Calls Try.prog 104 #[val, val'] w fun e w' => e = .returned (.bool (teq s v k s' v' k')) ∧ Below w.heap.size w w' := by
  have HT := Lib.hid (txt_teq h.shape h'.shape)
  have HO := Lib.hid h.okn
  have HO' := Lib.hid h'.okn
  have HF := Lib.hid h.ok
  have HF' := Lib.hid h'.ok
  have hz := h.small
  have hz' := h'.small
  rcases h.node with ⟨rfl, rfl, rfl⟩ | ⟨hs, a, c, rfl, _, hl⟩
  · rcases h'.node with ⟨rfl, rfl, rfl⟩ | ⟨hs', a', c', rfl, _, hl'⟩
    · clear h h'
      go_enter Try.func104, Try.ntmps104
      go_wp2_with fail
      refine upon_method 143 (by kernel_rfl) (by kernel_rfl) ?_
      go_simp
      with_reducible refine (varTx_any v HO.out _).mono ?_
      rintro e w2 ⟨rfl, hb2⟩
      go_wp2_with fail
      refine upon_method 143 (by kernel_rfl) (by kernel_rfl) ?_
      go_simp
      with_reducible refine (varTx_any v' HO'.out _).mono ?_
      rintro e w3 ⟨rfl, hb3⟩
      go_wp2_with fail
      go_ret
      exact ⟨by rw [HT.out]; rfl, hb2.trans (hb3.mono hb2.size)⟩
    · have HL' := Lib.hid hl'
      obtain rfl : v' = 0 := ((okN_iff _ _ _).1 HO'.out).2.2 hs'
      have HS' := Lib.hid hs'
      clear h h' hl' hs'
      go_enter Try.func104, Try.ntmps104
      go_wp2_with fail
      refine upon_method 143 (by kernel_rfl) (by kernel_rfl) ?_
      go_simp
      with_reducible refine (varTx_any v HO.out _).mono ?_
      rintro e w2 ⟨rfl, hb2⟩
      have HB2 := Lib.hid hb2
      clear hb2
      go_wp2_with fail
      refine upon_method 160 (by kernel_rfl) (by kernel_rfl) ?_
      go_simp
      with_reducible refine (symText_any (fsz k') s' a' c' k' _ ((HL'.out.below HB2.out).mono (Nat.le_refl _) HB2.out.size).to HS'.out HO'.out HF'.out (Nat.le_refl _) (by omega)).mono ?_
      rintro e w3 ⟨rfl, hb3⟩
      go_wp2_with fail
      go_ret
      exact ⟨by rw [HT.out]; rfl, HB2.out.trans (hb3.mono HB2.out.size)⟩
  · have HL := Lib.hid hl
    obtain rfl : v = 0 := ((okN_iff _ _ _).1 HO.out).2.2 hs
    have HS := Lib.hid hs
    rcases h'.node with ⟨rfl, rfl, rfl⟩ | ⟨hs', a', c', rfl, _, hl'⟩
    · clear h h' hl hs
      go_enter Try.func104, Try.ntmps104
      go_wp2_with fail
      refine upon_method 160 (by kernel_rfl) (by kernel_rfl) ?_
      go_simp
      with_reducible refine (symText_any (fsz k) s a c k _ HL.out.to HS.out HO.out HF.out (Nat.le_refl _) (by omega)).mono ?_
      rintro e w2 ⟨rfl, hb2⟩
      have HB2 := Lib.hid hb2
      clear hb2
      go_wp2_with fail
      refine upon_method 143 (by kernel_rfl) (by kernel_rfl) ?_
      go_simp
      with_reducible refine (varTx_any v' HO'.out _).mono ?_
      rintro e w3 ⟨rfl, hb3⟩
      go_wp2_with fail
      go_ret
      exact ⟨by rw [HT.out]; rfl, HB2.out.trans (hb3.mono HB2.out.size)⟩
    · have HL' := Lib.hid hl'
      obtain rfl : v' = 0 := ((okN_iff _ _ _).1 HO'.out).2.2 hs'
      have HS' := Lib.hid hs'
      clear h h' hl hl' hs hs'
      go_enter Try.func104, Try.ntmps104
      go_wp2_with fail
      refine upon_method 160 (by kernel_rfl) (by kernel_rfl) ?_
      go_simp
      with_reducible refine (symText_any (fsz k) s a c k _ HL.out.to HS.out HO.out HF.out (Nat.le_refl _) (by omega)).mono ?_
      rintro e w2 ⟨rfl, hb2⟩
      have HB2 := Lib.hid hb2
      clear hb2
      go_wp2_with fail
      refine upon_method 160 (by kernel_rfl) (by kernel_rfl) ?_
      go_simp
      with_reducible refine (symText_any (fsz k') s' a' c' k' _ ((HL'.out.below HB2.out).mono (Nat.le_refl _) HB2.out.size).to HS'.out HO'.out HF'.out (Nat.le_refl _) (by omega)).mono ?_
      rintro e w3 ⟨rfl, hb3⟩
      go_wp2_with fail
      go_ret
      exact ⟨by rw [HT.out]; rfl, HB2.out.trans (hb3.mono HB2.out.size)⟩

/-- A row of nodes of well-formed terms. -/
structure Nds (w : World) (a : Option Addr) (c : Nat) (k : Fo) : Prop where
  sl : CSl w 0 w.heap.size a k
  cap : flen k ≤ c
  ok : fok k = true
  small : fsz k ≤ 100
theorem Nds.next {w w2 : World} {a : Option Addr} {c : Nat} {k : Fo} (h : Nds w a c k) (hb : Below w.heap.size w w2) : Nds w2 a c k :=
  ⟨(h.sl.below hb).mono (Nat.le_refl _) hb.size, h.cap, h.ok, h.small⟩
theorem Nds.at {w : World} {a : Option Addr} {c : Nat} {k : Fo} {j : Nat} (h : Nds w a c k) (hj : j < flen k) :
    ∃ b o s v kk val x y, a = some ⟨b, o, none⟩ ∧ fdrop j k = .node x y (s, v) kk (fdrop (j + 1) k) ∧ w.cell? ⟨b, o + j, none⟩ = some val ∧ Nd w val s v kk ∧ fsz kk < fsz k := by
  rcases h.sl with rfl | ⟨b, o, rfl, hr⟩
  · simp [flen] at hj
  · obtain ⟨s, v, kk, val, ⟨x, y, hd⟩, _, _, hc, hn⟩ := crow_at hr hj
    have hk := fok_kid h.ok hd
    have hs := fsz_kid hd
    have := h.small
    exact ⟨b, o, s, v, kk, val, x, y, rfl, hd, hc, ⟨hn, hk.1, hk.2, by omega⟩, by omega⟩

def KidsPostC (k : Fo) (w : World) (e : Ending) (w' : World) : Prop := ∃ a c, e = .returned (.slice a (flen k) c) ∧ Below w.heap.size w w' ∧ Nds w a c k
set_option maxRecDepth 100000 in
set_option maxHeartbeats 400000 in
theorem kidsOfC_any {s v : Int} {k : Fo} {nv : Value} {w : World} (h : Nd w nv s v k) : Calls Try.prog 97 #[nv] w (KidsPostC k w) := by
  have hta := assert_var
  have htb := assert_sym
  have HO := Lib.hid h.ok
  have HZ := Lib.hid h.small
  rcases h.node with ⟨rfl, rfl, rfl⟩ | ⟨hs, a, c, rfl, hcp, hn⟩
  · clear h
    go_enter Try.func97, Try.ntmps97
    go_wp2_with fail
    go_ret
    exact ⟨none, 0, rfl, Below.refl _ _, .inl rfl, Nat.le_refl _, HO.out, HZ.out⟩
  · have HN := Lib.hid hn
    have HC := Lib.hid hcp
    clear hn hcp h
    go_enter Try.func97, Try.ntmps97
    go_wp2_with fail
    go_ret
    exact ⟨a, c, rfl, (Below.refl _ _).alloc (Nat.le_refl _) _, HN.out, HC.out, HO.out, HZ.out⟩
set_option maxRecDepth 100000 in
set_option maxHeartbeats 400000 in
theorem signOf_any {s v : Int} {k : Fo} {nv : Value} {w : World} (h : Nd w nv s v k) : Calls Try.prog 111 #[nv] w fun e w' => e = .returned (.int .i64 s) ∧ Below w.heap.size w w' := by
  have hta := assert_var
  have htb := assert_sym
  rcases h.node with ⟨rfl, rfl, rfl⟩ | ⟨hs, a, c, rfl, hcp, hn⟩
  · clear h
    go_enter Try.func111, Try.ntmps111
    go_wp2_with fail
    go_ret
    exact ⟨rfl, Below.refl _ _⟩
  · clear hn hcp h
    go_enter Try.func111, Try.ntmps111
    go_wp2_with fail
    go_ret
    exact ⟨rfl, (Below.refl _ _).alloc (Nat.le_refl _) _⟩

/-- The nodes from number n on. -/
theorem cut_nodes {a : Option Addr} {c n m : Nat} {k : Fo} (hm : m = flen k) (hn : n ≤ flen k) (hc : flen k ≤ c) : ∃ a' c', (∀ w : World, (Instr.slice 147 (.slice a m c) (some (.int .i64 (n : Int))) none none).run Try.prog w = .ok (.slice a' (flen (fdrop n k)) c') w) ∧
    ∀ w : World, Nds w a c k → Nds w a' c' (fdrop n k) := by
  subst hm
  have hti := Try.infoNode
  obtain ⟨ti, hti, hz⟩ := Option.map_eq_some_iff.1 hti
  simp only [Prod.mk.injEq] at hz
  have hsz : ∀ w : World, (sizeOf (Try.prog.elem 147)).run Try.prog w = .ok 1 w := fun w => by
    have he : Try.prog.elem 147 = 100 := by kernel_rfl
    rw [he]
    simp [sizeOf, typeInfo, hti, hz.2.1]
  have hel : Try.prog.underlying 147 = some (.slice (Try.prog.elem 147)) := by kernel_rfl
  have hrun : ∀ w : World, (Instr.slice 147 (.slice a (flen k) c) (some (.int .i64 (n : Int))) none none).run Try.prog w = .ok (sliced a n (flen k) c 1) w := fun w => by
    rw [run_slice_l (P := Try.prog) w 147 a (flen k) c hel .i64 (n : Int) (by omega) (by omega), hsz]
    simp [Result.andThen]
  refine ⟨if c = n then a else a.map (·.add (n * 1)), c - n, fun w => by rw [hrun w, flen_drop]; rfl, fun w h => ⟨?_, by rw [flen_drop]; omega, ?_, ?_⟩⟩
  · split
    · exact .inl (fdrop_all (by omega))
    · rcases h.sl with rfl | ⟨b, o, rfl, h1⟩
      · exact .inl (fdrop_all (by simp [flen]))
      · refine .inr ⟨b, o + n, ?_, crow_drop n k b o h1⟩
        have ha : (⟨b, o, none⟩ : Addr).add n = ⟨b, o + n, none⟩ := by unfold Addr.add; split <;> simp_all
        simp only [Option.map_some, Nat.mul_one, ha]
  · have : ∀ (n : Nat) (k : Fo), fok k = true → fok (fdrop n k) = true := by
      intro n
      induction n with
      | zero => intro k h; exact h
      | succ n ih =>
        intro k h
        cases k with
        | nil => rfl
        | node x y p kk r => simp only [fok, Bool.and_eq_true] at h; exact ih r h.2
    exact this n k h.ok
  · have := fsz_drop n k
    have := h.small
    omega
end Go.Proofs.Ytdkcbbhkoibplaa

/-! MJ: sameNode and signOf over any nodes of well-formed terms; what a map's writing keeps. -/
namespace Go.Proofs.Ytdkcbbhkoibplaa
open Go.RowKit Go.Deep Go.Maps

/-- A node of a well-formed term. -/
structure Nj (w : World) (val : Value) (s v : Int) (k : Fo) : Prop where
  node : NodeIs w 0 w.heap.size val s v k
  okn : okN s v (flen k) = true
  ok : fok k = true
  small : fsz k ≤ 1000
theorem Nj.next {w w2 : World} {val : Value} {s v : Int} {k : Fo} (h : Nj w val s v k) (hb : Below w.heap.size w w2) : Nj w2 val s v k :=
  ⟨(h.node.below hb).mono (Nat.le_refl _) hb.size, h.okn, h.ok, h.small⟩
theorem Nj.shape {w : World} {val : Value} {s v : Int} {k : Fo} (h : Nj w val s v k) : Shape s v k := shape_of h.okn h.ok

set_option maxRecDepth 100000 in
set_option maxHeartbeats 1000000 in
theorem sameNodeI_any {s v : Int} {k : Fo} {val : Value} {s' v' : Int} {k' : Fo} {val' : Value} {w : World} (h : Nj w val s v k) (h' : Nj w val' s' v' k') :
    Calls Try.prog 104 #[val, val'] w fun e w' => e = .returned (.bool (teq s v k s' v' k')) ∧ Below w.heap.size w w' := by
  have HT := Lib.hid (txt_teq h.shape h'.shape)
  have HO := Lib.hid h.okn
  have HO' := Lib.hid h'.okn
  have HF := Lib.hid h.ok
  have HF' := Lib.hid h'.ok
  have hz := h.small
  have hz' := h'.small
  rcases h.node with ⟨rfl, rfl, rfl⟩ | ⟨hs, a, c, rfl, hl⟩
  · rcases h'.node with ⟨rfl, rfl, rfl⟩ | ⟨hs', a', c', rfl, hl'⟩
    · clear h h'
      go_enter Try.func104, Try.ntmps104
      go_wp2_with fail
      refine upon_method 143 (by kernel_rfl) (by kernel_rfl) ?_
      go_simp
      with_reducible refine (varTx_any v HO.out _).mono ?_
      rintro e w2 ⟨rfl, hb2⟩
      go_wp2_with fail
      refine upon_method 143 (by kernel_rfl) (by kernel_rfl) ?_
      go_simp
      with_reducible refine (varTx_any v' HO'.out _).mono ?_
      rintro e w3 ⟨rfl, hb3⟩
      go_wp2_with fail
      go_ret
      exact ⟨by rw [HT.out]; rfl, hb2.trans (hb3.mono hb2.size)⟩
    · have HL' := Lib.hid hl'
      obtain rfl : v' = 0 := ((okN_iff _ _ _).1 HO'.out).2.2 hs'
      have HS' := Lib.hid hs'
      clear h h' hl' hs'
      go_enter Try.func104, Try.ntmps104
      go_wp2_with fail
      refine upon_method 143 (by kernel_rfl) (by kernel_rfl) ?_
      go_simp
      with_reducible refine (varTx_any v HO.out _).mono ?_
      rintro e w2 ⟨rfl, hb2⟩
      have HB2 := Lib.hid hb2
      clear hb2
      go_wp2_with fail
      refine upon_method 160 (by kernel_rfl) (by kernel_rfl) ?_
      go_simp
      with_reducible refine (symText_any (fsz k') s' a' c' k' _ ((HL'.out.below HB2.out).mono (Nat.le_refl _) HB2.out.size) HS'.out HO'.out HF'.out (Nat.le_refl _) (by omega)).mono ?_
      rintro e w3 ⟨rfl, hb3⟩
      go_wp2_with fail
      go_ret
      exact ⟨by rw [HT.out]; rfl, HB2.out.trans (hb3.mono HB2.out.size)⟩
  · have HL := Lib.hid hl
    obtain rfl : v = 0 := ((okN_iff _ _ _).1 HO.out).2.2 hs
    have HS := Lib.hid hs
    rcases h'.node with ⟨rfl, rfl, rfl⟩ | ⟨hs', a', c', rfl, hl'⟩
    · clear h h' hl hs
      go_enter Try.func104, Try.ntmps104
      go_wp2_with fail
      refine upon_method 160 (by kernel_rfl) (by kernel_rfl) ?_
      go_simp
      with_reducible refine (symText_any (fsz k) s a c k _ HL.out HS.out HO.out HF.out (Nat.le_refl _) (by omega)).mono ?_
      rintro e w2 ⟨rfl, hb2⟩
      have HB2 := Lib.hid hb2
      clear hb2
      go_wp2_with fail
      refine upon_method 143 (by kernel_rfl) (by kernel_rfl) ?_
      go_simp
      with_reducible refine (varTx_any v' HO'.out _).mono ?_
      rintro e w3 ⟨rfl, hb3⟩
      go_wp2_with fail
      go_ret
      exact ⟨by rw [HT.out]; rfl, HB2.out.trans (hb3.mono HB2.out.size)⟩
    · have HL' := Lib.hid hl'
      obtain rfl : v' = 0 := ((okN_iff _ _ _).1 HO'.out).2.2 hs'
      have HS' := Lib.hid hs'
      clear h h' hl hl' hs hs'
      go_enter Try.func104, Try.ntmps104
      go_wp2_with fail
      refine upon_method 160 (by kernel_rfl) (by kernel_rfl) ?_
      go_simp
      with_reducible refine (symText_any (fsz k) s a c k _ HL.out HS.out HO.out HF.out (Nat.le_refl _) (by omega)).mono ?_
      rintro e w2 ⟨rfl, hb2⟩
      have HB2 := Lib.hid hb2
      clear hb2
      go_wp2_with fail
      refine upon_method 160 (by kernel_rfl) (by kernel_rfl) ?_
      go_simp
      with_reducible refine (symText_any (fsz k') s' a' c' k' _ ((HL'.out.below HB2.out).mono (Nat.le_refl _) HB2.out.size) HS'.out HO'.out HF'.out (Nat.le_refl _) (by omega)).mono ?_
      rintro e w3 ⟨rfl, hb3⟩
      go_wp2_with fail
      go_ret
      exact ⟨by rw [HT.out]; rfl, HB2.out.trans (hb3.mono HB2.out.size)⟩

set_option maxRecDepth 100000 in
set_option maxHeartbeats 400000 in
theorem signOfI_any {s v : Int} {k : Fo} {nv : Value} {w : World} (h : Nj w nv s v k) : Calls Try.prog 111 #[nv] w fun e w' => e = .returned (.int .i64 s) ∧ Below w.heap.size w w' := by
  have hta := assert_var
  have htb := assert_sym
  rcases h.node with ⟨rfl, rfl, rfl⟩ | ⟨hs, a, c, rfl, hn⟩
  · clear h
    go_enter Try.func111, Try.ntmps111
    go_wp2_with fail
    go_ret
    exact ⟨rfl, Below.refl _ _⟩
  · clear hn h
    go_enter Try.func111, Try.ntmps111
    go_wp2_with fail
    go_ret
    exact ⟨rfl, (Below.refl _ _).alloc (Nat.le_refl _) _⟩

/-- What a map's writing keeps. -/
structure Kp (base : Nat) (w w' : World) : Prop where
  low : Below base w w'
  cell : ∀ q x, w.cell? q = some x → w'.cell? q = some x
theorem Kp.refl (base : Nat) (w : World) : Kp base w w := ⟨Below.refl _ _, fun _ _ h => h⟩
theorem Kp.trans {base : Nat} {w w' w2 : World} (h : Kp base w w') (h2 : Kp base w' w2) : Kp base w w2 := ⟨h.low.trans h2.low, fun q x hq => h2.cell q x (h.cell q x hq)⟩
theorem Kp.of {base : Nat} {w w' : World} (h : Below w.heap.size w w') (hb : base ≤ w.heap.size) : Kp base w w' := ⟨h.mono hb, fun _ _ hq => cell_low h hq⟩
theorem Nj.kp {base : Nat} {w w2 : World} {val : Value} {s v : Int} {k : Fo} (h : Nj w val s v k) (hb : Kp base w w2) : Nj w2 val s v k :=
  ⟨(h.node.keep hb.cell).mono (Nat.le_refl _) hb.low.size, h.okn, h.ok, h.small⟩
theorem NSl.kp {base : Nat} {w w2 : World} {a : Option Addr} {k : Fo} (h : NSl w 0 w.heap.size a k) (hb : Kp base w w2) : NSl w2 0 w2.heap.size a k := by
  rcases h with h | ⟨b, o, e, h⟩
  · exact .inl h
  · exact .inr ⟨b, o, e, (h.keep hb.cell).mono (Nat.le_refl _) hb.low.size⟩
/-- The same map by another list. -/
theorem MapIs.congr {w : World} {b : Nat} {bs bs' : List Bd} (h : MapIs w b bs) (hs : ∀ x, sv bs' x = sv bs x) (hl : bs'.length = bs.length) : MapIs w b bs' := by
  obtain ⟨n, D, hm, hn, hx⟩ := h
  exact ⟨n, D, hm, by omega, fun x hw => by rw [hs x]; exact hx x hw⟩
end Go.Proofs.Ytdkcbbhkoibplaa

/-! SZ: The size of a node, at the operation that calls the method through the interface. -/
namespace Go.Proofs.Ytdkcbbhkoibplaa
open Go.RowKit Go.Deep

set_option maxRecDepth 100000 in
set_option maxHeartbeats 1000000 in
theorem wpList_size (w : World) {ops : Array Oper} {rest : List Oper} {o : Oper} {a : Act} {Q : Exit → Act → World → Prop} (hg : Region.wanted o (yielded ops a.tmps) = true) (m : Operand) (hop : o.op = Op.call { callee := Callee.invoke m "loop.example/tipstaff/impl.size", args := #[], argTypes := #[] })
    (nv : Value) (s v : Int) (k : Fo) (hm : a.eval m = nv) (hn : NodeIs w 0 w.heap.size nv s v k) (hf : fsz k ≤ 100000)
    (hK : ∀ w', Below w.heap.size w w' → wpList Try.prog ops Q rest (a.put o.dst (.int .i64 (1 + fsz k))) w') :
    wpList Try.prog ops Q (o :: rest) a w := by
  refine BigFrame.wpList_want hg fun K' hK' => ?_
  unfold Oper.wp
  rcases hn with ⟨rfl, rfl, rfl⟩ | ⟨hs0, b, c, rfl, hns⟩
  · simp [execOp, hop, resolve, invoke, hm]
    go_simp
    refine upon_method 141 (by kernel_rfl) (by kernel_rfl) ?_
    go_simp
    refine (varSize_any v _).mono ?_
    rintro e w2 ⟨rfl, rfl⟩
    have h := hK w (Below.refl _ _)
    rw [show (1 + ((fsz (BT.nil : Fo) : Nat) : Int)) = 1 from by simp [fsz]] at h
    exact hK' _ _ h
  · simp [execOp, hop, resolve, invoke, hm]
    go_simp
    refine upon_method 158 (by kernel_rfl) (by kernel_rfl) ?_
    go_simp
    refine (symSize_any (fsz k) s b c k _ hns (Nat.le_refl _) (by omega)).mono ?_
    rintro e w2 ⟨rfl, hb2⟩
    exact hK' _ _ (hK w2 hb2)
end Go.Proofs.Ytdkcbbhkoibplaa

/-! SHm: - The contract of maps.Clone at this program. -/
namespace Go.Proofs
end Go.Proofs

/-! TI: - The program's then: what variables stand for, if others are put into that. -/
namespace Go.Proofs.Ytdkcbbhkoibplaa
open Go.RowKit Go.Deep Go.Maps

/-- What the copy says, while some are still to come. -/
def thF (bs us : List Bd) (left : Lit → Bool) (x : Int) : Option (Int × Int × Fo) := if left (.int .i64 x) = true then sv us x else thS (sv bs) (sv us) x
theorem thF_step {bs us : List Bd} {left : Lit → Bool} {x : Int} {t : Int × Int × Fo} (hs : sv bs x = some t) (y : Int) : thF bs us (fun z => left z && !z.sameKey (.int .i64 x)) y = if x = y then some (tsub (sv us) t.1 t.2.1 t.2.2) else thF bs us left y := by
  unfold thF
  by_cases e : x = y
  · subst e
    rw [if_pos rfl, if_neg (by simp [Lit.sameKey]), thS_some hs]
  · rw [if_neg e]
    have : (Lit.int .i64 y).sameKey (.int .i64 x) = false := by simp [Lit.sameKey]; exact fun h => e h.symm
    simp only [this, Bool.not_false, Bool.and_true]
theorem thF_rng {bs us : List Bd} (h1 : Rng (sv bs)) (h2 : Rng (sv us)) (left : Lit → Bool) : Rng (thF bs us left) := fun x t ht => by
  unfold thF at ht
  split at ht
  · exact h2 x t ht
  · cases hb : sv bs x with
    | some u => exact h1 x u hb
    | none => rw [thS_none hb] at ht; exact h2 x t ht
theorem below_grown {w w' : World} (h : Below w.heap.size w w') (row : Option Nat) : w.grownBy w' row := ⟨h.os, h.tape, h.output, h.size, fun i hi _ => h.block i hi⟩
def TnPost (bs us : List Bd) (w : World) (e : Ending) (w' : World) : Prop := ∃ g, e = .returned (.map (some g)) ∧ Below w.heap.size w w' ∧ MapF w' g (thS (sv bs) (sv us)) ∧ w.heap.size ≤ g

end Go.Proofs.Ytdkcbbhkoibplaa

/-! UN0: What makes two terms the same: plain. Definitions and plain lemmas. -/
namespace Go.Proofs.Ytdkcbbhkoibplaa
open Go.RowKit Go.Deep

abbrev T3 := Int × Int × Fo
def ap (σ : Int → Option T3) (t : T3) : T3 := tsub σ t.1 t.2.1 t.2.2
def okT (t : T3) : Prop := okN t.1 t.2.1 (flen t.2.2) = true ∧ fok t.2.2 = true
def sz (t : T3) : Nat := 1 + fsz t.2.2
def vr (t : T3) : List Int := fvs t.1 t.2.1 t.2.2
def vT (x : Int) : T3 := (0, x, .nil)

/-- A variable stands for a term, beside what is known. -/
def unB (lim : Nat) (bs : List Bd) (v : Int) (t : T3) : Option (List Bd) :=
  if v ∈ vr t ∨ lim < sz t then none else if ∀ x ∈ thL bs [(v, t)], sz x.2 ≤ lim then some (thL bs [(v, t)]) else none
def unF (f : List Bd → T3 → T3 → Option (List Bd)) : List Bd → Fo → Fo → Option (List Bd)
  | bs, .nil, .nil => some bs
  | bs, .node _ _ p k r, .node _ _ q l m => (f bs (p.1, p.2, k) (q.1, q.2, l)).bind fun b1 => unF f b1 r m
  | _, _, _ => none
def tq (a b : T3) : Bool := teq a.1 a.2.1 a.2.2 b.1 b.2.1 b.2.2
/-- Two terms made the same, in so many steps down at most. -/
def unT (lim : Nat) : Nat → List Bd → T3 → T3 → Option (List Bd)
  | 0, _, _, _ => none
  | n + 1, bs, a, b =>
    if tq (ap (sv bs) a) (ap (sv bs) b) = true then some bs
    else if (ap (sv bs) a).1 = 0 then unB lim bs (ap (sv bs) a).2.1 (ap (sv bs) b)
    else if (ap (sv bs) b).1 = 0 then unB lim bs (ap (sv bs) b).2.1 (ap (sv bs) a)
    else if (ap (sv bs) a).1 = (ap (sv bs) b).1 then unF (unT lim n) bs (ap (sv bs) a).2.2 (ap (sv bs) b).2.2
    else none

theorem ap_th (σ τ : Int → Option T3) (t : T3) : ap τ (ap σ t) = ap (thS σ τ) t := tsub_th _ _ _
theorem ap_congr {σ τ : Int → Option T3} {t : T3} (h : ∀ x ∈ vr t, σ x = τ x) : ap σ t = ap τ t := tsub_congr h
theorem okT_var {x : Int} (h : 0 ≤ x ∧ x ≤ 11) : okT (vT x) := ⟨(okN_iff _ _ _).2 ⟨by simp [vT, flen, ar], fun _ => h, fun h => absurd rfl h⟩, rfl⟩
theorem okT_zero {t : T3} (h : okT t) (e : t.1 = 0) : t = vT t.2.1 ∧ 0 ≤ t.2.1 ∧ t.2.1 ≤ 11 := by
  obtain ⟨s, v, k⟩ := t
  dsimp only at e
  subst e
  have h1 := h.1
  dsimp only at h1
  have hk := kids_none h1
  subst hk
  exact ⟨rfl, ((okN_iff _ _ _).1 h1).2.1 rfl⟩
theorem okT_sym {t : T3} (h : okT t) (e : t.1 ≠ 0) : t = (t.1, 0, t.2.2) := by
  obtain ⟨s, v, k⟩ := t
  have := ((okN_iff _ _ _).1 h.1).2.2 e
  dsimp only at this ⊢
  rw [this]
theorem ap_sym {σ : Int → Option T3} {t : T3} (e : t.1 ≠ 0) : ap σ t = (t.1, t.2.1, fsub σ t.2.2) := tsub_sym e
theorem ap_var {σ : Int → Option T3} {x : Int} {t : T3} (h : σ x = some t) : ap σ (vT x) = t := tsub_var rfl h
theorem ap_none {σ : Int → Option T3} {x : Int} (h : σ x = none) : ap σ (vT x) = vT x := tsub_none rfl h
theorem vr_var (x : Int) : vr (vT x) = [x] := rfl
theorem ap_ok {σ : Int → Option T3} (h : ∀ x t, σ x = some t → okT t) {t : T3} (ht : okT t) : okT (ap σ t) := by
  by_cases e : t.1 = 0
  · rw [(okT_zero ht e).1]
    cases hx : σ t.2.1 with
    | some u => rw [ap_var hx]; exact h _ _ hx
    | none => rw [ap_none hx, ← (okT_zero ht e).1]; exact ht
  · rw [ap_sym e]
    exact ⟨by rw [show flen (t.1, t.2.1, fsub σ t.2.2).2.2 = flen t.2.2 from fsub_len σ _]; exact ht.1, fsub_ok h _ ht.2⟩
theorem ap_zf {σ : Int → Option T3} (h : ∀ x t, σ x = some t → Zf t.2.2) {t : T3} (ht : Zf t.2.2) : Zf (ap σ t).2.2 := by
  have hf : ∀ k : Fo, Zf k → Zf (fsub σ k) := fun k => by
    induction k with
    | nil => exact fun h => h
    | node x y p k r ih1 ih2 =>
      intro hz
      obtain ⟨rfl, rfl, hk, hr⟩ := zf_node.1 hz
      rw [fsub_sign]
      refine zf_node.2 ⟨rfl, rfl, ?_, ih2 hr⟩
      by_cases e : p.1 = 0
      · cases hx : σ p.2 with
        | some u => rw [tsub_var e hx]; exact h _ _ hx
        | none => rw [tsub_none e hx]; exact hk
      · rw [tsub_sym e]; exact ih1 hk
  unfold ap
  by_cases e : t.1 = 0
  · cases hx : σ t.2.1 with
    | some u => rw [tsub_var e hx]; exact h _ _ hx
    | none => rw [tsub_none e hx]; exact ht
  · rw [tsub_sym e]; exact hf _ ht
theorem okT_kn {t : T3} (h : okT t) : t.1 = 0 → t.2.2 = .nil := fun e => by rw [(okT_zero h e).1]; rfl
theorem vr_ap (σ : Int → Option T3) {t : T3} (h : okT t) (x : Int) : x ∈ vr (ap σ t) ↔ ∃ y ∈ vr t, x ∈ vr (ap σ (vT y)) := fvs_sub σ x t.1 t.2.1 t.2.2 (okT_kn h)
theorem sz_more (σ : Int → Option T3) {t : T3} (h : okT t) : sz t ≤ sz (ap σ t) := by
  by_cases e : t.1 = 0
  · rw [(okT_zero h e).1]; simp only [sz, vT, fsz]; omega
  · rw [ap_sym e]
    have := fsub_more (σ := σ) t.2.2 h.2
    simp only [sz]; omega
/-- What a variable stands for is not larger than a term in which it occurs. -/
theorem fsz_occ (σ : Int → Option T3) {x : Int} : ∀ k : Fo, fok k = true → x ∈ fvl k → sz (ap σ (vT x)) ≤ fsz (fsub σ k)
  | .nil, _, h => by simp [fvl] at h
  | .node a b p k r, ho, h => by
    simp only [fok, Bool.and_eq_true] at ho
    simp only [fvl, List.mem_append] at h
    rw [fsub_sign]
    simp only [fsz]
    rcases h with h | h
    · by_cases e : p.1 = 0
      · rw [if_pos e] at h
        simp only [List.mem_singleton] at h
        subst h
        have hk : k = .nil := kids_none (v := p.2) (by rw [← e]; exact ho.1.1)
        have : tsub σ p.1 p.2 k = ap σ (vT p.2) := by rw [hk, e]; rfl
        rw [this]; simp only [sz]; omega
      · rw [if_neg e] at h
        have := fsz_occ σ k ho.1.2 h
        rw [tsub_sym e]; dsimp only; omega
    · have := fsz_occ σ r ho.2 h
      omega
theorem sz_occ (σ : Int → Option T3) {x : Int} {t : T3} (h : okT t) (hx : x ∈ vr t) : sz (ap σ (vT x)) ≤ sz (ap σ t) ∧ (t.1 ≠ 0 → sz (ap σ (vT x)) < sz (ap σ t)) := by
  by_cases e : t.1 = 0
  · rw [(okT_zero h e).1] at hx ⊢
    rw [vr_var] at hx
    simp only [List.mem_singleton] at hx
    subst hx
    exact ⟨Nat.le_refl _, fun h => absurd rfl h⟩
  · unfold vr fvs at hx
    rw [if_neg e] at hx
    have := fsz_occ σ t.2.2 h.2 hx
    rw [ap_sym e]
    constructor
    · simp only [sz] at this ⊢; omega
    · intro _; simp only [sz] at this ⊢; omega

/-- What holds of what is known. -/
structure Wb (lim : Nat) (bs : List Bd) : Prop where
  asc : Asc bs
  ok : ∀ x t, sv bs x = some t → okT t
  small : ∀ x t, sv bs x = some t → sz t ≤ lim
  rng : ∀ x t, sv bs x = some t → 0 ≤ x ∧ x ≤ 11
  free : ∀ x t, sv bs x = some t → ∀ y ∈ vr t, sv bs y = none
theorem Wb.nil (lim : Nat) : Wb lim [] := ⟨List.Pairwise.nil, fun _ _ h => by simp [sv] at h, fun _ _ h => by simp [sv] at h, fun _ _ h => by simp [sv] at h, fun _ _ h => by simp [sv] at h⟩
theorem Wb.free_ap {lim : Nat} {bs : List Bd} (h : Wb lim bs) {t : T3} (ht : okT t) : ∀ y ∈ vr (ap (sv bs) t), sv bs y = none := fun y hy => by
  obtain ⟨z, _, hz⟩ := (vr_ap (sv bs) ht y).1 hy
  cases hs : sv bs z with
  | some u => rw [ap_var hs] at hz; exact h.free z u hs y hz
  | none =>
    rw [ap_none hs, vr_var] at hz
    simp only [List.mem_singleton] at hz
    rw [hz]; exact hs
theorem Wb.idem {lim : Nat} {bs : List Bd} (h : Wb lim bs) {t : T3} (ht : okT t) : ap (sv bs) (ap (sv bs) t) = ap (sv bs) t := tsub_id (h.free_ap ht)
theorem Wb.okA {lim : Nat} {bs : List Bd} (h : Wb lim bs) {t : T3} (ht : okT t) : okT (ap (sv bs) t) := ap_ok h.ok ht
theorem Wb.len {lim : Nat} {bs : List Bd} (h : Wb lim bs) : bs.length ≤ 12 := by
  have := asc_len bs (-1) (by omega) h.asc fun x hx => by
    have := h.rng x.1 x.2 (sv_mem h.asc hx); omega
  omega
theorem sv_one (v : Int) (t : T3) (x : Int) : sv [(v, t)] x = if v = x then some t else none := rfl
theorem asc_one (v : Int) (t : T3) : Asc [(v, t)] := List.pairwise_singleton _ _
theorem unB_in {lim : Nat} {bs out : List Bd} {v : Int} {t : T3} (h : unB lim bs v t = some out) : v ∉ vr t ∧ sz t ≤ lim ∧ out = thL bs [(v, t)] ∧ ∀ x ∈ out, sz x.2 ≤ lim := by
  unfold unB at h
  split at h
  · cases h
  · rename_i hn
    split at h
    · rename_i ha
      obtain rfl := Option.some.inj h
      exact ⟨fun h => hn (.inl h), Nat.le_of_not_lt fun h => hn (.inr h), rfl, ha⟩
    · cases h
theorem unB_wb {lim : Nat} {bs out : List Bd} {v : Int} {t : T3} (h : unB lim bs v t = some out) (hw : Wb lim bs) (hv : 0 ≤ v ∧ v ≤ 11) (hvn : sv bs v = none) (ht : okT t) (hf : ∀ y ∈ vr t, sv bs y = none) : Wb lim out := by
  obtain ⟨h1, h2, rfl, h4⟩ := unB_in h
  have hsv := thL_sv hw.asc (asc_one v t)
  have hasc := thL_asc hw.asc (asc_one v t)
  have hone : ∀ x u, sv [(v, t)] x = some u → okT u := fun x u hu => by
    rw [sv_one] at hu
    split at hu
    · obtain rfl := Option.some.inj hu; exact ht
    · cases hu
  -- what a variable stands for then, and how it came
  have key : ∀ x u, sv (thL bs [(v, t)]) x = some u → (∃ u0, sv bs x = some u0 ∧ u = ap (sv [(v, t)]) u0) ∨ (sv bs x = none ∧ x = v ∧ u = t) := fun x u hu => by
    rw [hsv x] at hu
    cases hb : sv bs x with
    | some u0 => rw [thS_some hb] at hu; exact .inl ⟨u0, rfl, (Option.some.inj hu).symm⟩
    | none =>
      rw [thS_none hb, sv_one] at hu
      split at hu
      · rename_i e; exact .inr ⟨rfl, e.symm, (Option.some.inj hu).symm⟩
      · cases hu
  refine ⟨hasc, fun x u hu => ?_, fun x u hu => h4 _ (mem_sv hu), fun x u hu => ?_, fun x u hu y hy => ?_⟩
  · rcases key x u hu with ⟨u0, hu0, rfl⟩ | ⟨_, _, rfl⟩
    · exact ap_ok hone (hw.ok x u0 hu0)
    · exact ht
  · rcases key x u hu with ⟨u0, hu0, _⟩ | ⟨_, rfl, _⟩
    · exact hw.rng x u0 hu0
    · exact hv
  · have hyt : y ∈ vr t → sv (thL bs [(v, t)]) y = none := fun hy => by
      rw [hsv y, thS_none (hf y hy), sv_one, if_neg (fun e : v = y => h1 (by rw [e]; exact hy))]
    rcases key x u hu with ⟨u0, hu0, rfl⟩ | ⟨_, _, rfl⟩
    · obtain ⟨z, hz, hyz⟩ := (vr_ap _ (hw.ok x u0 hu0) y).1 hy
      have hbz := hw.free x u0 hu0 z hz
      by_cases e : v = z
      · rw [ap_var (by rw [sv_one, if_pos e])] at hyz
        exact hyt hyz
      · rw [ap_none (by rw [sv_one, if_neg e]), vr_var] at hyz
        simp only [List.mem_singleton] at hyz
        subst hyz
        rw [hsv y, thS_none hbz, sv_one, if_neg e]
    · exact hyt hy

/-- The second goes on from the first. -/
def Le (bs bs' : List Bd) : Prop := ∀ a, okT a → ap (sv bs') (ap (sv bs) a) = ap (sv bs') a
theorem Le.trans {lim : Nat} {b0 b1 b2 : List Bd} (h : Le b0 b1) (h2 : Le b1 b2) (h0 : Wb lim b0) : Le b0 b2 := fun a ha => by
  have e1 := h2 _ (h0.okA ha)
  rw [← e1, h a ha, h2 a ha]
theorem Wb.le {lim : Nat} {bs : List Bd} (h : Wb lim bs) : Le bs bs := fun _ ha => h.idem ha
theorem unB_ap {lim : Nat} {bs out : List Bd} {v : Int} {t : T3} (h : unB lim bs v t = some out) (hw : Wb lim bs) (a : T3) : ap (sv out) a = ap (sv [(v, t)]) (ap (sv bs) a) := by
  obtain ⟨h1, h2, rfl, h4⟩ := unB_in h
  rw [ap_th]
  exact ap_congr fun x _ => thL_sv hw.asc (asc_one v t) x
theorem unB_le {lim : Nat} {bs out : List Bd} {v : Int} {t : T3} (h : unB lim bs v t = some out) (hw : Wb lim bs) : Le bs out := fun a ha => by
  rw [unB_ap h hw, unB_ap h hw, hw.idem ha]
theorem ap_one_self (v : Int) (t : T3) : ap (sv [(v, t)]) (vT v) = t := ap_var (by rw [sv_one, if_pos rfl])
theorem ap_one_out {v : Int} {t : T3} (h : v ∉ vr t) : ap (sv [(v, t)]) t = t := tsub_id fun x hx => by rw [sv_one, if_neg (fun e : v = x => h (by rw [e]; exact hx))]
/-- Behind a bind both sides are the same. -/
theorem unB_same {lim : Nat} {bs out : List Bd} {v : Int} {t a : T3} (h : unB lim bs v t = some out) (hw : Wb lim bs) (hav : ap (sv bs) a = vT v) {b : T3} (hbt : ap (sv bs) b = t) : ap (sv out) a = ap (sv out) b := by
  rw [unB_ap h hw, unB_ap h hw, hav, hbt, ap_one_self, ap_one_out (unB_in h).1]

theorem tq_of {a b : T3} (ha : Zf a.2.2) (hb : Zf b.2.2) : tq a b = true ↔ a = b := teq_z ha hb
def Bz (bs : List Bd) : Prop := ∀ x t, sv bs x = some t → Zf t.2.2
theorem unB_zf {lim : Nat} {bs out : List Bd} {v : Int} {t : T3} (h : unB lim bs v t = some out) (hw : Wb lim bs) (hz : Bz bs) (ht : Zf t.2.2) : Bz out := fun x u hu => by
  obtain ⟨_, _, rfl, _⟩ := unB_in h
  rw [thL_sv hw.asc (asc_one v t) x] at hu
  have hone : ∀ x u, sv [(v, t)] x = some u → Zf u.2.2 := fun x u hu => by
    rw [sv_one] at hu
    split at hu
    · obtain rfl := Option.some.inj hu; exact ht
    · cases hu
  cases hb : sv bs x with
  | some u0 =>
    rw [thS_some hb] at hu
    obtain rfl := Option.some.inj hu
    exact ap_zf (t := u0) hone (hz x u0 hb)
  | none => rw [thS_none hb] at hu; exact hone x u hu

/-- What one round of the walk does to what is known. -/
structure UnOk (lim : Nat) (bs bs' : List Bd) : Prop where
  wb : Wb lim bs'
  le : Le bs bs'
/-- Kept from bs on, without marks or with them. -/
theorem unF_wb {lim : Nat} {f : List Bd → T3 → T3 → Option (List Bd)} (hf : ∀ bs a b bs', Wb lim bs → okT a → okT b → f bs a b = some bs' → Wb lim bs' ∧ Le bs bs') :
    ∀ (k l : Fo) (bs bs' : List Bd), Wb lim bs → fok k = true → fok l = true → unF f bs k l = some bs' → Wb lim bs' ∧ Le bs bs'
  | .nil, .nil, bs, bs', hw, _, _, h => by obtain rfl := Option.some.inj h; exact ⟨hw, hw.le⟩
  | .nil, .node _ _ _ _ _, _, _, _, _, _, h => by simp [unF] at h
  | .node _ _ _ _ _, .nil, _, _, _, _, _, h => by simp [unF] at h
  | .node _ _ p k r, .node _ _ q l m, bs, bs', hw, hk, hl, h => by
    simp only [fok, Bool.and_eq_true] at hk hl
    simp only [unF] at h
    obtain ⟨b1, h1, h2⟩ := Option.bind_eq_some_iff.1 h
    obtain ⟨w1, l1⟩ := hf bs (p.1, p.2, k) (q.1, q.2, l) b1 hw ⟨hk.1.1, hk.1.2⟩ ⟨hl.1.1, hl.1.2⟩ h1
    obtain ⟨w2, l2⟩ := unF_wb hf r m b1 bs' w1 hk.2 hl.2 h2
    exact ⟨w2, l1.trans l2 hw⟩
theorem unT_wb {lim : Nat} : ∀ (n : Nat) (bs : List Bd) (a b : T3) (bs' : List Bd), Wb lim bs → okT a → okT b → unT lim n bs a b = some bs' → Wb lim bs' ∧ Le bs bs'
  | 0, _, _, _, _, _, _, _, h => by simp [unT] at h
  | n + 1, bs, a, b, bs', hw, ha, hb, h => by
    have oa := hw.okA ha
    have ob := hw.okA hb
    have fa := hw.free_ap ha
    have fb := hw.free_ap hb
    unfold unT at h
    split at h
    · obtain rfl := Option.some.inj h; exact ⟨hw, hw.le⟩
    · split at h
      · rename_i e
        have hz := okT_zero oa e
        exact ⟨unB_wb h hw hz.2 (fa _ (by rw [hz.1]; exact List.mem_singleton.2 rfl)) ob fb, unB_le h hw⟩
      · split at h
        · rename_i e
          have hz := okT_zero ob e
          exact ⟨unB_wb h hw hz.2 (fb _ (by rw [hz.1]; exact List.mem_singleton.2 rfl)) oa fa, unB_le h hw⟩
        · split at h
          · exact unF_wb (unT_wb n) _ _ bs bs' hw oa.2 ob.2 h
          · cases h
end Go.Proofs.Ytdkcbbhkoibplaa
