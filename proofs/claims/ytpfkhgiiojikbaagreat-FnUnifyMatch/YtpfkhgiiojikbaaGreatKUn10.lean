/- Several texts in one: G2, MJ, WL0, SZ, SHm, AD0, A1, A2. -/
import Derived.Test.YtpfkhgiiojikbaaGreatKUn9
import Derived.Test.YtpfkhgiiojikbaaGreatKUn6
import Derived.Lib.Slices
import Derived.Test.YtpfkhgiiojikbaaGreatKUn8
import Derived.Test.YtpfkhgiiojikbaaGreatKUn5
import Derived.Test.YtpfkhgiiojikbaaGreatKUn4
import Derived.Test.YtpfkhgiiojikbaaGreatProg
import Derived.Shelf.SlGeneric
import Derived.Ground.SlmcProg
import Derived.Shelf.SlMaps.Clone
import Derived.Test.YtpfkhgiiojikbaaGreatKUn7
import Derived.Deep.OwnRows

/-! G2: sameNode, signOf, kidsOf, a cut of a row of nodes, before. -/
namespace Go.Proofs.YtpfkhgiiojikbaaGreat
open Go.RowKit Go.Deep

/-- A node of a well-formed term. -/
structure Nd (w : World) (val : Value) (s v : Int) (k : Fo) : Prop where
  node : NodeC w 0 w.heap.size val s v k
  okn : okN s v (flen k) = true
  ok : fok k = true
  small : fsz k ≤ 100
theorem Nd.next {w w2 : World} {val : Value} {s v : Int} {k : Fo} (h : Nd w val s v k) (hb : Below w.heap.size w w2) : Nd w2 val s v k :=
  ⟨(h.node.below hb).mono (Nat.le_refl _) hb.size, h.okn, h.ok, h.small⟩
theorem Nd.shape {w : World} {val : Value} {s v : Int} {k : Fo} (h : Nd w val s v k) : Shape s v k := shape_of h.okn h.ok

theorem varTx_any (v : Int) (h : okN 0 v (flen (.nil : Fo)) = true) (w : World) :
    Calls Tryz.prog 114 #[.int .i64 v] w fun e w' => e = .returned (.string (str (tx 0 v .nil))) ∧ Below w.heap.size w w' := by
  have hv := ((okN_iff _ _ _).1 h).2.1 rfl
  rw [tx_var]
  exact (varText_any v hv.1 (by omega) w).mono fun e w' ⟨he, hw⟩ => ⟨he, hw ▸ Below.refl _ _⟩
theorem txt_teq {s v : Int} {k : Fo} {s' v' : Int} {k' : Fo} (h : Shape s v k) (h' : Shape s' v' k') : ((str (tx s v k)).toList == (str (tx s' v' k')).toList) = teq s v k s' v' k' := by
  have hl : ∀ l : List UInt8, (str l).toList = l := fun l => by simp [str]
  rw [hl, hl]
  have := tx_teq h h'
  cases ht : teq s v k s' v' k' with
  | true => exact beq_iff_eq.2 (this.2 ht)
  | false => exact beq_eq_false_iff_ne.2 fun he => by rw [this.1 he] at ht; cases ht

set_option maxRecDepth 100000 in
set_option maxHeartbeats 1000000 in
theorem sameNode_any {s v : Int} {k : Fo} {val : Value} {s' v' : Int} {k' : Fo} {val' : Value} {w : World} (h : Nd w val s v k) (h' : Nd w val' s' v' k') :
    Calls Tryz.prog 61 #[val, val'] w fun e w' => e = .returned (.bool (teq s v k s' v' k')) ∧ Below w.heap.size w w' := by
  have HT := Lib.hid (txt_teq h.shape h'.shape)
  have HO := Lib.hid h.okn
  have HO' := Lib.hid h'.okn
  have HF := Lib.hid h.ok
  have HF' := Lib.hid h'.ok
  have hz := h.small
  have hz' := h'.small
  rcases h.node with ⟨rfl, rfl, rfl⟩ | ⟨hs, a, c, rfl, _, hl⟩
  · rcases h'.node with ⟨rfl, rfl, rfl⟩ | ⟨hs', a', c', rfl, _, hl'⟩
    · clear h h'
      go_enter Tryz.func61, Tryz.ntmps61
      go_wp2_with fail
      refine upon_method 114 (by kernel_rfl) (by kernel_rfl) ?_
      go_simp
      with_reducible refine (varTx_any v HO.out _).mono ?_
      rintro e w2 ⟨rfl, hb2⟩
      go_wp2_with fail
      refine upon_method 114 (by kernel_rfl) (by kernel_rfl) ?_
      go_simp
      with_reducible refine (varTx_any v' HO'.out _).mono ?_
      rintro e w3 ⟨rfl, hb3⟩
      go_wp2_with fail
      go_ret
      exact ⟨by rw [HT.out]; rfl, hb2.trans (hb3.mono hb2.size)⟩
    · have HL' := Lib.hid hl'
      obtain rfl : v' = 0 := ((okN_iff _ _ _).1 HO'.out).2.2 hs'
      have HS' := Lib.hid hs'
      clear h h' hl' hs'
      go_enter Tryz.func61, Tryz.ntmps61
      go_wp2_with fail
      refine upon_method 114 (by kernel_rfl) (by kernel_rfl) ?_
      go_simp
      with_reducible refine (varTx_any v HO.out _).mono ?_
      rintro e w2 ⟨rfl, hb2⟩
      have HB2 := Lib.hid hb2
      clear hb2
      go_wp2_with fail
      refine upon_method 130 (by kernel_rfl) (by kernel_rfl) ?_
      go_simp
      with_reducible refine (symText_any (fsz k') s' a' c' k' _ ((HL'.out.below HB2.out).mono (Nat.le_refl _) HB2.out.size).to HS'.out HO'.out HF'.out (Nat.le_refl _) (by omega)).mono ?_
      rintro e w3 ⟨rfl, hb3⟩
      go_wp2_with fail
      go_ret
      exact ⟨by rw [HT.out]; rfl, HB2.out.trans (hb3.mono HB2.out.size)⟩
  · have HL := Lib.hid hl
    obtain rfl : v = 0 := ((okN_iff _ _ _).1 HO.out).2.2 hs
    have HS := Lib.hid hs
    rcases h'.node with ⟨rfl, rfl, rfl⟩ | ⟨hs', a', c', rfl, _, hl'⟩
    · clear h h' hl hs
      go_enter Tryz.func61, Tryz.ntmps61
      go_wp2_with fail
      refine upon_method 130 (by kernel_rfl) (by kernel_rfl) ?_
      go_simp
      with_reducible refine (symText_any (fsz k) s a c k _ HL.out.to HS.out HO.out HF.out (Nat.le_refl _) (by omega)).mono ?_
      rintro e w2 ⟨rfl, hb2⟩
      have HB2 := Lib.hid hb2
      clear hb2
      go_wp2_with fail
      refine upon_method 114 (by kernel_rfl) (by kernel_rfl) ?_
      go_simp
      with_reducible refine (varTx_any v' HO'.out _).mono ?_
      rintro e w3 ⟨rfl, hb3⟩
      go_wp2_with fail
      go_ret
      exact ⟨by rw [HT.out]; rfl, HB2.out.trans (hb3.mono HB2.out.size)⟩
    · have HL' := Lib.hid hl'
      obtain rfl : v' = 0 := ((okN_iff _ _ _).1 HO'.out).2.2 hs'
      have HS' := Lib.hid hs'
      clear h h' hl hl' hs hs'
      go_enter Tryz.func61, Tryz.ntmps61
      go_wp2_with fail
      refine upon_method 130 (by kernel_rfl) (by kernel_rfl) ?_
      go_simp
      with_reducible refine (symText_any (fsz k) s a c k _ HL.out.to HS.out HO.out HF.out (Nat.le_refl _) (by omega)).mono ?_
      rintro e w2 ⟨rfl, hb2⟩
      have HB2 := Lib.hid hb2
      clear hb2
      go_wp2_with fail
      refine upon_method 130 (by kernel_rfl) (by kernel_rfl) ?_
      go_simp
      with_reducible refine (symText_any (fsz k') s' a' c' k' _ ((HL'.out.below HB2.out).mono (Nat.le_refl _) HB2.out.size).to HS'.out HO'.out HF'.out (Nat.le_refl _) (by omega)).mono ?_
      rintro e w3 ⟨rfl, hb3⟩
      go_wp2_with fail
      go_ret
      exact ⟨by rw [HT.out]; rfl, HB2.out.trans (hb3.mono HB2.out.size)⟩

/-- A row of nodes of well-formed terms. -/
structure Nds (w : World) (a : Option Addr) (c : Nat) (k : Fo) : Prop where
  sl : CSl w 0 w.heap.size a k
  cap : flen k ≤ c
  ok : fok k = true
  small : fsz k ≤ 100
theorem Nds.next {w w2 : World} {a : Option Addr} {c : Nat} {k : Fo} (h : Nds w a c k) (hb : Below w.heap.size w w2) : Nds w2 a c k :=
  ⟨(h.sl.below hb).mono (Nat.le_refl _) hb.size, h.cap, h.ok, h.small⟩
theorem Nds.at {w : World} {a : Option Addr} {c : Nat} {k : Fo} {j : Nat} (h : Nds w a c k) (hj : j < flen k) :
    ∃ b o s v kk val x y, a = some ⟨b, o, none⟩ ∧ fdrop j k = .node x y (s, v) kk (fdrop (j + 1) k) ∧ w.cell? ⟨b, o + j, none⟩ = some val ∧ Nd w val s v kk ∧ fsz kk < fsz k := by
  rcases h.sl with rfl | ⟨b, o, rfl, hr⟩
  · simp [flen] at hj
  · obtain ⟨s, v, kk, val, ⟨x, y, hd⟩, _, _, hc, hn⟩ := crow_at hr hj
    have hk := fok_kid h.ok hd
    have hs := fsz_kid hd
    have := h.small
    exact ⟨b, o, s, v, kk, val, x, y, rfl, hd, hc, ⟨hn, hk.1, hk.2, by omega⟩, by omega⟩

def KidsPostC (k : Fo) (w : World) (e : Ending) (w' : World) : Prop := ∃ a c, e = .returned (.slice a (flen k) c) ∧ Below w.heap.size w w' ∧ Nds w a c k
set_option maxRecDepth 100000 in
set_option maxHeartbeats 400000 in
theorem kidsOfC_any {s v : Int} {k : Fo} {nv : Value} {w : World} (h : Nd w nv s v k) : Calls Tryz.prog 71 #[nv] w (KidsPostC k w) := by
  have hta := assert_var
  have htb := assert_sym
  have HO := Lib.hid h.ok
  have HZ := Lib.hid h.small
  rcases h.node with ⟨rfl, rfl, rfl⟩ | ⟨hs, a, c, rfl, hcp, hn⟩
  · clear h
    go_enter Tryz.func71, Tryz.ntmps71
    go_wp2_with fail
    go_ret
    exact ⟨none, 0, rfl, Below.refl _ _, .inl rfl, Nat.le_refl _, HO.out, HZ.out⟩
  · have HN := Lib.hid hn
    have HC := Lib.hid hcp
    clear hn hcp h
    go_enter Tryz.func71, Tryz.ntmps71
    go_wp2_with fail
    go_ret
    exact ⟨a, c, rfl, (Below.refl _ _).alloc (Nat.le_refl _) _, HN.out, HC.out, HO.out, HZ.out⟩
set_option maxRecDepth 100000 in
set_option maxHeartbeats 400000 in
theorem signOf_any {s v : Int} {k : Fo} {nv : Value} {w : World} (h : Nd w nv s v k) : Calls Tryz.prog 72 #[nv] w fun e w' => e = .returned (.int .i64 s) ∧ Below w.heap.size w w' := by
  have hta := assert_var
  have htb := assert_sym
  rcases h.node with ⟨rfl, rfl, rfl⟩ | ⟨hs, a, c, rfl, hcp, hn⟩
  · clear h
    go_enter Tryz.func72, Tryz.ntmps72
    go_wp2_with fail
    go_ret
    exact ⟨rfl, Below.refl _ _⟩
  · clear hn hcp h
    go_enter Tryz.func72, Tryz.ntmps72
    go_wp2_with fail
    go_ret
    exact ⟨rfl, (Below.refl _ _).alloc (Nat.le_refl _) _⟩

/-- The nodes from number n on. -/
theorem cut_nodes {a : Option Addr} {c n m : Nat} {k : Fo} (hm : m = flen k) (hn : n ≤ flen k) (hc : flen k ≤ c) : ∃ a' c', (∀ w : World, (Instr.slice 94 (.slice a m c) (some (.int .i64 (n : Int))) none none).run Tryz.prog w = .ok (.slice a' (flen (fdrop n k)) c') w) ∧
    ∀ w : World, Nds w a c k → Nds w a' c' (fdrop n k) := by
  subst hm
  have hti := Tryz.infoNode
  obtain ⟨ti, hti, hz⟩ := Option.map_eq_some_iff.1 hti
  simp only [Prod.mk.injEq] at hz
  have hsz : ∀ w : World, (sizeOf (Tryz.prog.elem 94)).run Tryz.prog w = .ok 1 w := fun w => by
    have he : Tryz.prog.elem 94 = 55 := by kernel_rfl
    rw [he]
    simp [sizeOf, typeInfo, hti, hz.2.1]
  have hel : Tryz.prog.underlying 94 = some (.slice (Tryz.prog.elem 94)) := by kernel_rfl
  have hrun : ∀ w : World, (Instr.slice 94 (.slice a (flen k) c) (some (.int .i64 (n : Int))) none none).run Tryz.prog w = .ok (sliced a n (flen k) c 1) w := fun w => by
    rw [run_slice_l (P := Tryz.prog) w 94 a (flen k) c hel .i64 (n : Int) (by omega) (by omega), hsz]
    simp [Result.andThen]
  refine ⟨if c = n then a else a.map (·.add (n * 1)), c - n, fun w => by rw [hrun w, flen_drop]; rfl, fun w h => ⟨?_, by rw [flen_drop]; omega, ?_, ?_⟩⟩
  · split
    · exact .inl (fdrop_all (by omega))
    · rcases h.sl with rfl | ⟨b, o, rfl, h1⟩
      · exact .inl (fdrop_all (by simp [flen]))
      · refine .inr ⟨b, o + n, ?_, crow_drop n k b o h1⟩
        have ha : (⟨b, o, none⟩ : Addr).add n = ⟨b, o + n, none⟩ := by unfold Addr.add; split <;> simp_all
        simp only [Option.map_some, Nat.mul_one, ha]
  · have : ∀ (n : Nat) (k : Fo), fok k = true → fok (fdrop n k) = true := by
      intro n
      induction n with
      | zero => intro k h; exact h
      | succ n ih =>
        intro k h
        cases k with
        | nil => rfl
        | node x y p kk r => simp only [fok, Bool.and_eq_true] at h; exact ih r h.2
    exact this n k h.ok
  · have := fsz_drop n k
    have := h.small
    omega
end Go.Proofs.YtpfkhgiiojikbaaGreat

/-! MJ: sameNode and signOf over any nodes of well-formed terms; what a map's writing keeps. -/
namespace Go.Proofs.YtpfkhgiiojikbaaGreat
open Go.RowKit Go.Deep Go.Maps

/-- A node of a well-formed term. -/
structure Nj (w : World) (val : Value) (s v : Int) (k : Fo) : Prop where
  node : NodeIs w 0 w.heap.size val s v k
  okn : okN s v (flen k) = true
  ok : fok k = true
  small : fsz k ≤ 1000
theorem Nj.next {w w2 : World} {val : Value} {s v : Int} {k : Fo} (h : Nj w val s v k) (hb : Below w.heap.size w w2) : Nj w2 val s v k :=
  ⟨(h.node.below hb).mono (Nat.le_refl _) hb.size, h.okn, h.ok, h.small⟩
theorem Nj.shape {w : World} {val : Value} {s v : Int} {k : Fo} (h : Nj w val s v k) : Shape s v k := shape_of h.okn h.ok

set_option maxRecDepth 100000 in
set_option maxHeartbeats 1000000 in
theorem sameNodeI_any {s v : Int} {k : Fo} {val : Value} {s' v' : Int} {k' : Fo} {val' : Value} {w : World} (h : Nj w val s v k) (h' : Nj w val' s' v' k') :
    Calls Tryz.prog 61 #[val, val'] w fun e w' => e = .returned (.bool (teq s v k s' v' k')) ∧ Below w.heap.size w w' := by
  have HT := Lib.hid (txt_teq h.shape h'.shape)
  have HO := Lib.hid h.okn
  have HO' := Lib.hid h'.okn
  have HF := Lib.hid h.ok
  have HF' := Lib.hid h'.ok
  have hz := h.small
  have hz' := h'.small
  rcases h.node with ⟨rfl, rfl, rfl⟩ | ⟨hs, a, c, rfl, hl⟩
  · rcases h'.node with ⟨rfl, rfl, rfl⟩ | ⟨hs', a', c', rfl, hl'⟩
    · clear h h'
      go_enter Tryz.func61, Tryz.ntmps61
      go_wp2_with fail
      refine upon_method 114 (by kernel_rfl) (by kernel_rfl) ?_
      go_simp
      with_reducible refine (varTx_any v HO.out _).mono ?_
      rintro e w2 ⟨rfl, hb2⟩
      go_wp2_with fail
      refine upon_method 114 (by kernel_rfl) (by kernel_rfl) ?_
      go_simp
      with_reducible refine (varTx_any v' HO'.out _).mono ?_
      rintro e w3 ⟨rfl, hb3⟩
      go_wp2_with fail
      go_ret
      exact ⟨by rw [HT.out]; rfl, hb2.trans (hb3.mono hb2.size)⟩
    · have HL' := Lib.hid hl'
      obtain rfl : v' = 0 := ((okN_iff _ _ _).1 HO'.out).2.2 hs'
      have HS' := Lib.hid hs'
      clear h h' hl' hs'
      go_enter Tryz.func61, Tryz.ntmps61
      go_wp2_with fail
      refine upon_method 114 (by kernel_rfl) (by kernel_rfl) ?_
      go_simp
      with_reducible refine (varTx_any v HO.out _).mono ?_
      rintro e w2 ⟨rfl, hb2⟩
      have HB2 := Lib.hid hb2
      clear hb2
      go_wp2_with fail
      refine upon_method 130 (by kernel_rfl) (by kernel_rfl) ?_
      go_simp
      with_reducible refine (symText_any (fsz k') s' a' c' k' _ ((HL'.out.below HB2.out).mono (Nat.le_refl _) HB2.out.size) HS'.out HO'.out HF'.out (Nat.le_refl _) (by omega)).mono ?_
      rintro e w3 ⟨rfl, hb3⟩
      go_wp2_with fail
      go_ret
      exact ⟨by rw [HT.out]; rfl, HB2.out.trans (hb3.mono HB2.out.size)⟩
  · have HL := Lib.hid hl
    obtain rfl : v = 0 := ((okN_iff _ _ _).1 HO.out).2.2 hs
    have HS := Lib.hid hs
    rcases h'.node with ⟨rfl, rfl, rfl⟩ | ⟨hs', a', c', rfl, hl'⟩
    · clear h h' hl hs
      go_enter Tryz.func61, Tryz.ntmps61
      go_wp2_with fail
      refine upon_method 130 (by kernel_rfl) (by kernel_rfl) ?_
      go_simp
      with_reducible refine (symText_any (fsz k) s a c k _ HL.out HS.out HO.out HF.out (Nat.le_refl _) (by omega)).mono ?_
      rintro e w2 ⟨rfl, hb2⟩
      have HB2 := Lib.hid hb2
      clear hb2
      go_wp2_with fail
      refine upon_method 114 (by kernel_rfl) (by kernel_rfl) ?_
      go_simp
      with_reducible refine (varTx_any v' HO'.out _).mono ?_
      rintro e w3 ⟨rfl, hb3⟩
      go_wp2_with fail
      go_ret
      exact ⟨by rw [HT.out]; rfl, HB2.out.trans (hb3.mono HB2.out.size)⟩
    · have HL' := Lib.hid hl'
      obtain rfl : v' = 0 := ((okN_iff _ _ _).1 HO'.out).2.2 hs'
      have HS' := Lib.hid hs'
      clear h h' hl hl' hs hs'
      go_enter Tryz.func61, Tryz.ntmps61
      go_wp2_with fail
      refine upon_method 130 (by kernel_rfl) (by kernel_rfl) ?_
      go_simp
      with_reducible refine (symText_any (fsz k) s a c k _ HL.out HS.out HO.out HF.out (Nat.le_refl _) (by omega)).mono ?_
      rintro e w2 ⟨rfl, hb2⟩
      have HB2 := Lib.hid hb2
      clear hb2
      go_wp2_with fail
      refine upon_method 130 (by kernel_rfl) (by kernel_rfl) ?_
      go_simp
      with_reducible refine (symText_any (fsz k') s' a' c' k' _ ((HL'.out.below HB2.out).mono (Nat.le_refl _) HB2.out.size) HS'.out HO'.out HF'.out (Nat.le_refl _) (by omega)).mono ?_
      rintro e w3 ⟨rfl, hb3⟩
      go_wp2_with fail
      go_ret
      exact ⟨by rw [HT.out]; rfl, HB2.out.trans (hb3.mono HB2.out.size)⟩

set_option maxRecDepth 100000 in
set_option maxHeartbeats 400000 in
theorem signOfI_any {s v : Int} {k : Fo} {nv : Value} {w : World} (h : Nj w nv s v k) : Calls Tryz.prog 72 #[nv] w fun e w' => e = .returned (.int .i64 s) ∧ Below w.heap.size w w' := by
  have hta := assert_var
  have htb := assert_sym
  rcases h.node with ⟨rfl, rfl, rfl⟩ | ⟨hs, a, c, rfl, hn⟩
  · clear h
    go_enter Tryz.func72, Tryz.ntmps72
    go_wp2_with fail
    go_ret
    exact ⟨rfl, Below.refl _ _⟩
  · clear hn h
    go_enter Tryz.func72, Tryz.ntmps72
    go_wp2_with fail
    go_ret
    exact ⟨rfl, (Below.refl _ _).alloc (Nat.le_refl _) _⟩

/-- What a map's writing keeps. -/
structure Kp (base : Nat) (w w' : World) : Prop where
  low : Below base w w'
  cell : ∀ q x, w.cell? q = some x → w'.cell? q = some x
theorem Kp.refl (base : Nat) (w : World) : Kp base w w := ⟨Below.refl _ _, fun _ _ h => h⟩
theorem Kp.trans {base : Nat} {w w' w2 : World} (h : Kp base w w') (h2 : Kp base w' w2) : Kp base w w2 := ⟨h.low.trans h2.low, fun q x hq => h2.cell q x (h.cell q x hq)⟩
theorem Kp.of {base : Nat} {w w' : World} (h : Below w.heap.size w w') (hb : base ≤ w.heap.size) : Kp base w w' := ⟨h.mono hb, fun _ _ hq => cell_low h hq⟩
theorem Nj.kp {base : Nat} {w w2 : World} {val : Value} {s v : Int} {k : Fo} (h : Nj w val s v k) (hb : Kp base w w2) : Nj w2 val s v k :=
  ⟨(h.node.keep hb.cell).mono (Nat.le_refl _) hb.low.size, h.okn, h.ok, h.small⟩
theorem NSl.kp {base : Nat} {w w2 : World} {a : Option Addr} {k : Fo} (h : NSl w 0 w.heap.size a k) (hb : Kp base w w2) : NSl w2 0 w2.heap.size a k := by
  rcases h with h | ⟨b, o, e, h⟩
  · exact .inl h
  · exact .inr ⟨b, o, e, (h.keep hb.cell).mono (Nat.le_refl _) hb.low.size⟩
/-- The same map by another list. -/
theorem MapIs.congr {w : World} {b : Nat} {bs bs' : List Bd} (h : MapIs w b bs) (hs : ∀ x, sv bs' x = sv bs x) (hl : bs'.length = bs.length) : MapIs w b bs' := by
  obtain ⟨n, D, hm, hn, hx⟩ := h
  exact ⟨n, D, hm, by omega, fun x hw => by rw [hs x]; exact hx x hw⟩
end Go.Proofs.YtpfkhgiiojikbaaGreat

/-! WL0: size of a node. -/
namespace Go.Proofs.YtpfkhgiiojikbaaGreat
open Go.RowKit Go.Deep

set_option maxHeartbeats 400000 in
theorem varSize_any (v : Int) (w : World) :
    Calls Tryz.prog 112 #[.int .i64 v] w fun e w' => e = .returned (.int .i64 1) ∧ w = w' := by
  go_enter Tryz.func112, Tryz.ntmps112
  go_wp2_with fail
  go_ret
  exact ⟨rfl, rfl⟩

set_option maxRecDepth 100000 in
set_option maxHeartbeats 1000000 in
theorem symSize_any (N : Nat) : ∀ (s : Int) (a : Option Addr) (c : Nat) (k : Fo) (w : World), NSl w 0 w.heap.size a k → fsz k ≤ N → N ≤ 1000000 →
    Calls Tryz.prog 128 #[.agg #[.int .i64 s, .slice a (flen k) c]] w fun e w' => e = .returned (.int .i64 (1 + fsz k)) ∧ Below w.heap.size w w' := by
  induction N using Nat.strongRecOn with
  | _ N ih =>
    intro s a c k w hl hN hN2
    have hfl := flen_le_sz k
    have IH := Lib.hid ih
    clear ih
    go_enter Tryz.func128, Tryz.ntmps128
    go_wp2_with fail
    go_loopw [3, 9] (fun t i wr => ∃ (j : Nat) (m : Int), j ≤ flen k ∧ i = .int .i64 j ∧ t = .int .i64 m ∧ 0 ≤ m ∧ m ≤ 2000000 ∧ Hid (m + (fsz (fdrop j k) : Int) = 1 + fsz k) ∧ Below (w.heap.size + 1) (w.alloc (.cells #[.int .i64 s, .slice a (flen k) c] 96)) wr) (fun _ i _ => flen k - (intOf i).toNat)
    case atStart => exact ⟨0, 1, by omega, rfl, rfl, by omega, by omega, by simp [Hid, fdrop], Below.refl _ _⟩
    case round =>
      obtain ⟨j, m, hj, rfl, rfl, hm0, hm1, hm2, hbl⟩ := hrel
      have hsr := hbl.size
      simp at hsr
      by_cases hlt : j < flen k
      · rcases hl with rfl | ⟨b, o, rfl, hrow⟩
        · simp [flen] at hlt
        obtain ⟨s', v', kk, val, ⟨x, y, hd⟩, _, hbB, hk0, hn⟩ := nrow_at (hrow.below (after_top hbl)) hlt
        have hkN := fsz_kid hd
        have hd2 := fsz_drop j k
        rw [hd] at hd2
        simp only [fsz] at hd2
        have hm3 := hm2.out
        rw [hd] at hm3
        simp only [fsz] at hm3
        have HM := Lib.hid hm3
        have HBL := Lib.hid hbl
        clear hd hrow hm3 hm2 hbl
        rcases hn with ⟨hs', rfl, rfl⟩ | ⟨hs', a2, c2, rfl, hn2⟩
        · have HM1 : Hid (m + 1 + (fsz (fdrop (j + 1) k) : Int) = 1 + fsz k) := by have := HM.out; simp only [Hid, fsz] at this ⊢; omega
          go_wp2_with fail
          refine upon_method 112 (by kernel_rfl) (by kernel_rfl) ?_
          go_simp
          with_reducible refine (varSize_any v' _).mono ?_
          rintro e w2 ⟨rfl, rfl⟩
          go_wp2_with fail
          refine ⟨⟨j + 1, m + 1, by omega, by go_num, rfl, by omega, by have := HM1.out; omega, HM1, HBL.out⟩, ?_⟩
          simp [intOf]; omega
        · have HM1 : Hid (m + (1 + fsz kk) + (fsz (fdrop (j + 1) k) : Int) = 1 + fsz k) := by have := HM.out; simp only [Hid] at this ⊢; omega
          have HN2 := Lib.hid hn2
          clear hn2
          go_wp2_with fail
          refine upon_method 128 (by kernel_rfl) (by kernel_rfl) ?_
          go_simp
          with_reducible refine (IH.out (fsz kk) (by omega) s' a2 c2 kk _ ?_ (Nat.le_refl _) (by omega)).mono ?_
          · exact HN2.out.mono (Nat.le_refl _) (by omega)
          rintro e w2 ⟨rfl, hb2⟩
          have HB2 := Lib.hid (HBL.out.trans (hb2.mono (by omega)))
          clear hb2
          go_wp2_with fail
          refine ⟨⟨j + 1, m + (1 + fsz kk), by omega, by go_num, rfl, by omega, by have := HM1.out; omega, HM1, HB2.out⟩, ?_⟩
          simp [intOf]; omega
      · have hm3 := hm2.out
        rw [fdrop_all (by omega)] at hm3
        simp only [fsz] at hm3
        have HM : Hid (m = 1 + fsz k) := by simp only [Hid]; omega
        clear hm3 hm2
        go_wp2_with fail
        go_ret
        exact ⟨by rw [← HM.out]; rfl, after_top hbl⟩

end Go.Proofs.YtpfkhgiiojikbaaGreat

/-! SZ: The size of a node, at the operation that calls the method through the interface. -/
namespace Go.Proofs.YtpfkhgiiojikbaaGreat
open Go.RowKit Go.Deep

set_option maxRecDepth 100000 in
set_option maxHeartbeats 1000000 in
theorem wpList_size (w : World) {ops : Array Oper} {rest : List Oper} {o : Oper} {a : Act} {Q : Exit → Act → World → Prop} (hg : Region.wanted o (yielded ops a.tmps) = true) (m : Operand) (hop : o.op = Op.call { callee := Callee.invoke m "loop.example/tipstaff/impl.size", args := #[], argTypes := #[] })
    (nv : Value) (s v : Int) (k : Fo) (hm : a.eval m = nv) (hn : NodeIs w 0 w.heap.size nv s v k) (hf : fsz k ≤ 100000)
    (hK : ∀ w', Below w.heap.size w w' → wpList Tryz.prog ops Q rest (a.put o.dst (.int .i64 (1 + fsz k))) w') :
    wpList Tryz.prog ops Q (o :: rest) a w := by
  refine BigFrame.wpList_want hg fun K' hK' => ?_
  unfold Oper.wp
  rcases hn with ⟨rfl, rfl, rfl⟩ | ⟨hs0, b, c, rfl, hns⟩
  · simp [execOp, hop, resolve, invoke, hm]
    go_simp
    refine upon_method 112 (by kernel_rfl) (by kernel_rfl) ?_
    go_simp
    refine (varSize_any v _).mono ?_
    rintro e w2 ⟨rfl, rfl⟩
    have h := hK w (Below.refl _ _)
    rw [show (1 + ((fsz (BT.nil : Fo) : Nat) : Int)) = 1 from by simp [fsz]] at h
    exact hK' _ _ h
  · simp [execOp, hop, resolve, invoke, hm]
    go_simp
    refine upon_method 128 (by kernel_rfl) (by kernel_rfl) ?_
    go_simp
    refine (symSize_any (fsz k) s b c k _ hns (Nat.le_refl _) (by omega)).mono ?_
    rintro e w2 ⟨rfl, hb2⟩
    exact hK' _ _ (hK w2 hb2)
end Go.Proofs.YtpfkhgiiojikbaaGreat

/-! SHm: The contract of maps.Clone at this program. -/
namespace Go.Proofs
open Go.Shelf
def Tryz.cloneS_ren : Go.Shelf.Ren := ⟨fun | 5 => 53 | 7 => 70 | n => n, fun | 23 => 59 | 25 => 90 | 3 => 55 | 4 => 4 | 20 => 20 | n => n, fun | n => n⟩
theorem Tryz.cloneS : Go.Proofs.SlLaysW.n5 Tryz.prog Tryz.cloneS_ren := {
  mixed := by kernel_rfl
  f5 := ⟨Tryz.f53.name, by decide, Tryz.func53.trans (congrArg some (by kernel_rfl))⟩
  f7 := Tryz.func70.trans (congrArg some (by kernel_rfl))
  t4 := Tryz.underlying4
  a4 := Tryz.isAgg4
  z4 := Tryz.sizeOf4
  v4 := Tryz.zeroValue4
  t20 := Tryz.underlying20
  a20 := Tryz.isAgg20
  z20 := Tryz.sizeOf20
  v20 := Tryz.zeroValue20
  t23 := Tryz.underlying59
  a23 := Tryz.isAgg59
  z23 := Tryz.sizeOf59
  v23 := Tryz.zeroValue59 }
end Go.Proofs

/-! AD0: A bind put in order, plain. -/
namespace Go.Proofs.YtpfkhgiiojikbaaGreat
open Go.RowKit Go.Deep

/-- A bind put in order. -/
def ladd : List Bd → Bd → List Bd
  | [], b => [b]
  | x :: r, b => if b.1 < x.1 then b :: x :: r else x :: ladd r b
theorem ladd_len : ∀ (bs : List Bd) (b : Bd), (ladd bs b).length = bs.length + 1
  | [], _ => rfl
  | x :: r, b => by
    simp only [ladd]
    split
    · rfl
    · simp [ladd_len r b]
end Go.Proofs.YtpfkhgiiojikbaaGreat

/-! A1: - nodeAt: the node that stands at a place. -/
namespace Go.Proofs.YtpfkhgiiojikbaaGreat
open Go.RowKit Go.Deep

theorem isl_get {w : World} {lo B : Nat} {a : Option Addr} {xs : List Int} {i : Nat} (h : ISl w lo B a xs) (hi : i < xs.length) :
    ∃ b o, a = some ⟨b, o, none⟩ ∧ lo ≤ b ∧ b < B ∧ w.cell? ⟨b, o + i, none⟩ = some (.int .i64 xs[i]) := by
  rcases h with rfl | ⟨b, o, e, h1, h2, h3⟩
  · simp at hi
  · exact ⟨b, o, e, h1, h2, h3 i _ (List.getElem?_eq_getElem hi)⟩

/-- What stands at a place. -/
def fat : Int → Int → Fo → List Int → Option (Int × Int × Fo)
  | s, v, k, [] => some (s, v, k)
  | _, _, k, i :: ps => if 0 ≤ i ∧ i < (flen k : Int) then (match fdrop i.toNat k with
    | .node _ _ (s', v') kk _ => fat s' v' kk ps
    | .nil => none) else none

def NaPost (s v : Int) (k : Fo) (place : List Int) (w : World) (e : Ending) (w' : World) : Prop :=
  Below w.heap.size w w' ∧ ((∃ s' v' k' nv, fat s v k place = some (s', v', k') ∧ e = .returned (.tuple #[nv, .bool true]) ∧ NodeIs w 0 w.heap.size nv s' v' k') ∨ (fat s v k place = none ∧ e = .returned (.tuple #[.nilIface, .bool false])))

end Go.Proofs.YtpfkhgiiojikbaaGreat

/-! A2: The term that a node stands for, made anew. -/
namespace Go.Proofs.YtpfkhgiiojikbaaGreat
open Go.RowKit Go.Deep
attribute [local go_sem ↓] Go.wp_at_zero Go.wp_at_succ

def TmPost (s v : Int) (k : Fo) (w : World) (e : Ending) (w' : World) : Prop :=
  ∃ a c, e = .returned (.agg #[.int .i64 s, .int .i64 v, .slice a (flen k) c]) ∧ Below w.heap.size w w' ∧ Sl w' w.heap.size w'.heap.size a k

set_option maxRecDepth 100000 in
set_option maxHeartbeats 1000000 in
theorem varTerm_any (v : Int) (w : World) : Calls Tryz.prog 113 #[.int .i64 v] w (TmPost 0 v .nil w) := by
  go_enter Tryz.func113, Tryz.ntmps113
  go_wp2_with fail
  refine bodyPost_ret (v := .agg #[.int .i64 0, .int .i64 v, .slice none 0 0]) ?_ rfl ⟨none, 0, rfl, (Below.refl _ _).alloc (Nat.le_refl _) _, .inl rfl⟩
  simp [results, Tryz.results113, go_sem]

theorem make_termsA (n : Nat) (hn : n ≤ 1048576) (w : World) :
    (Instr.makeSlice 23 (.int .i64 (n : Int)) (.int .i64 (n : Int))).run Tryz.prog w = .ok (.slice (some ⟨w.heap.size, 0, none⟩) n n) (w.alloc (.cells (madeCells #[.int .i64 0, .int .i64 0, .slice none 0 0] (n * 3)) 25)) := by
  obtain ⟨i, hi, hz, hs, hb⟩ := Tryz.infoTerm
  have := run_make (P := Tryz.prog) w 23 25 i _ Tryz.underlying23 hi hz .i64 .i64 (n : Int) (n : Int) (by omega) (by omega) (by rw [hb]; omega) (by omega)
  rw [hs] at this
  simpa [Value.cells] using this
theorem made_atA (n i : Nat) (z : Array Value) (h : i < n) : (madeCells z n)[i]? = some (z[i % z.size]!) := by simp [madeCells, h]

/-- What holds at the head of term's loop: the first j kids are made. -/
structure TmAt (w : World) (s : Int) (k : Fo) (j : Nat) (wr : World) : Prop where
  below : Below w.heap.size w wr
  size : w.heap.size + 4 ≤ wr.heap.size
  t0 : wr.cell? ⟨w.heap.size + 1 + 1, 0, none⟩ = some (.int .i64 s)
  t1 : wr.cell? ⟨w.heap.size + 1 + 1, 1, none⟩ = some (.int .i64 0)
  t2 : wr.cell? ⟨w.heap.size + 1 + 1, 2, none⟩ = some (.slice (some ⟨w.heap.size + 1 + 1 + 1, 0, none⟩) (flen k) (flen k))
  r0 : wr.cell? ⟨w.heap.size + 1, 0, none⟩ = some (.int .i64 0)
  r1 : wr.cell? ⟨w.heap.size + 1, 1, none⟩ = some (.int .i64 0)
  r2 : wr.cell? ⟨w.heap.size + 1, 2, none⟩ = some (.slice none 0 0)
  q0 : wr.frozen? ⟨w.heap.size + 1, 0, none⟩ = false
  q1 : wr.frozen? ⟨w.heap.size + 1, 1, none⟩ = false
  q2 : wr.frozen? ⟨w.heap.size + 1, 2, none⟩ = false
  row : ∃ f : Nat → Value, wr.rowIs (w.heap.size + 1 + 1 + 1) 25 (flen k * 3) f ∧ ∀ i, i < j → ∃ x y s v kk a c, fdrop i k = .node x y (s, v) kk (fdrop (i + 1) k) ∧
    f (i * 3) = .int .i64 s ∧ f (i * 3 + 1) = .int .i64 v ∧ f (i * 3 + 2) = .slice a (flen kk) c ∧ Sl wr (w.heap.size + 4) wr.heap.size a kk

theorem TmAt.start (w : World) (s : Int) (k : Fo) (x : Value) (y : Value) : TmAt w s k 0 ((((w.alloc (.cells #[x, y] 96)).alloc (.cells #[.int .i64 0, .int .i64 0, .slice none 0 0] 25)).alloc (.cells #[.int .i64 s, .int .i64 0, .slice (some ⟨w.heap.size + 1 + 1 + 1, 0, none⟩) (flen k) (flen k)] 25)).alloc (.cells (madeCells #[.int .i64 0, .int .i64 0, .slice none 0 0] (flen k * 3)) 25)) := by
  refine ⟨((((Below.refl _ _).alloc (Nat.le_refl _) _).alloc (by simp) _).alloc (by simp; omega) _).alloc (by simp; omega) _, by simp, ?_, ?_, ?_, ?_, ?_, ?_, ?_, ?_, ?_, ?_⟩
  · rw [World.cell?_alloc_lt _ _ _ (by simp), World.cell?_alloc_at _ _ _ _ (by simp)]; rfl
  · rw [World.cell?_alloc_lt _ _ _ (by simp), World.cell?_alloc_at _ _ _ _ (by simp)]; rfl
  · rw [World.cell?_alloc_lt _ _ _ (by simp), World.cell?_alloc_at _ _ _ _ (by simp)]; rfl
  · rw [World.cell?_alloc_lt _ _ _ (by simp), World.cell?_alloc_lt _ _ _ (by simp), World.cell?_alloc_at _ _ _ _ (by simp)]; rfl
  · rw [World.cell?_alloc_lt _ _ _ (by simp), World.cell?_alloc_lt _ _ _ (by simp), World.cell?_alloc_at _ _ _ _ (by simp)]; rfl
  · rw [World.cell?_alloc_lt _ _ _ (by simp), World.cell?_alloc_lt _ _ _ (by simp), World.cell?_alloc_at _ _ _ _ (by simp)]; rfl
  · rw [World.frozen?_alloc_past _ _ _ (by simp), World.frozen?_alloc_past _ _ _ (by simp), World.frozen?_alloc_at _ _ _ _ (by simp)]
  · rw [World.frozen?_alloc_past _ _ _ (by simp), World.frozen?_alloc_past _ _ _ (by simp), World.frozen?_alloc_at _ _ _ _ (by simp)]
  · rw [World.frozen?_alloc_past _ _ _ (by simp), World.frozen?_alloc_past _ _ _ (by simp), World.frozen?_alloc_at _ _ _ _ (by simp)]
  · refine ⟨fun i => #[Value.int .i64 0, .int .i64 0, .slice none 0 0][i % 3]!, ?_, fun i hi => by omega⟩
    have := World.rowIs_alloc (((w.alloc (.cells #[x, y] 96)).alloc (.cells #[.int .i64 0, .int .i64 0, .slice none 0 0] 25)).alloc (.cells #[.int .i64 s, .int .i64 0, .slice (some ⟨w.heap.size + 1 + 1 + 1, 0, none⟩) (flen k) (flen k)] 25)) (madeCells #[.int .i64 0, .int .i64 0, .slice none 0 0] (flen k * 3)) 25 (fun i => #[Value.int .i64 0, .int .i64 0, .slice none 0 0][i % 3]!) (fun i hi => by
      rw [size_madeCells] at hi
      exact made_atA _ _ _ hi)
    rw [size_madeCells] at this
    simp only [World.size_alloc] at this
    exact this
theorem TmAt.step {w wr w2 : World} {s0 : Int} {k : Fo} {j x y : Nat} {s v : Int} {kk : Fo} {a : Option Addr} {c : Nat} (h : TmAt w s0 k j wr) (hd : fdrop j k = .node x y (s, v) kk (fdrop (j + 1) k)) (hb : Below wr.heap.size wr w2) (hl : Sl w2 wr.heap.size w2.heap.size a kk) :
    TmAt w s0 k (j + 1) (((w2.setCell ⟨w.heap.size + 1 + 1 + 1, j * 3, none⟩ (.int .i64 s)).setCell ⟨w.heap.size + 1 + 1 + 1, j * 3 + 1, none⟩ (.int .i64 v)).setCell ⟨w.heap.size + 1 + 1 + 1, j * 3 + 2, none⟩ (.slice a (flen kk) c)) := by
  have hs := h.size
  have hs2 := hb.size
  obtain ⟨f, hf, hall⟩ := h.row
  have hf2 := hf.of_block (hb.block _ (by omega))
  have hsame : ∀ {L H : Nat}, w.heap.size + 3 < L → Same L H w2 (((w2.setCell ⟨w.heap.size + 1 + 1 + 1, j * 3, none⟩ (.int .i64 s)).setCell ⟨w.heap.size + 1 + 1 + 1, j * 3 + 1, none⟩ (.int .i64 v)).setCell ⟨w.heap.size + 1 + 1 + 1, j * 3 + 2, none⟩ (.slice a (flen kk) c)) := fun hL =>
    ((Same.setCell (fun _ _ _ => rfl) (.inl (by simp; omega)) _).setCell (.inl (by simp; omega)) _).setCell (.inl (by simp; omega)) _
  have hcell : ∀ {q : Addr} {u : Value}, wr.cell? q = some u → q.block < w.heap.size + 3 → (((w2.setCell ⟨w.heap.size + 1 + 1 + 1, j * 3, none⟩ (.int .i64 s)).setCell ⟨w.heap.size + 1 + 1 + 1, j * 3 + 1, none⟩ (.int .i64 v)).setCell ⟨w.heap.size + 1 + 1 + 1, j * 3 + 2, none⟩ (.slice a (flen kk) c)).cell? q = some u := fun {q u} hq hlt => by
    rw [World.cell?_setCell_other _ _ _ _ (by intro h'; have := congrArg Addr.block h'; simp at this; omega), World.cell?_setCell_other _ _ _ _ (by intro h'; have := congrArg Addr.block h'; simp at this; omega), World.cell?_setCell_other _ _ _ _ (by intro h'; have := congrArg Addr.block h'; simp at this; omega), hb.cell (World.block_lt_of_cell? _ _ hq)]
    exact hq
  have hfro : ∀ {q : Addr}, wr.frozen? q = false → q.block < w.heap.size + 3 → (((w2.setCell ⟨w.heap.size + 1 + 1 + 1, j * 3, none⟩ (.int .i64 s)).setCell ⟨w.heap.size + 1 + 1 + 1, j * 3 + 1, none⟩ (.int .i64 v)).setCell ⟨w.heap.size + 1 + 1 + 1, j * 3 + 2, none⟩ (.slice a (flen kk) c)).frozen? q = false := fun {q} hq hlt => by
    rw [World.frozen?_setCell, World.frozen?_setCell, World.frozen?_setCell, hb.frozen (by omega)]
    exact hq
  refine ⟨(((h.below.trans (hb.mono (by omega))).setCell (by simp; omega) _).setCell (by simp; omega) _).setCell (by simp; omega) _, by simp; omega, hcell h.t0 (by simp), hcell h.t1 (by simp), hcell h.t2 (by simp), hcell h.r0 (by simp), hcell h.r1 (by simp), hcell h.r2 (by simp), hfro h.q0 (by simp), hfro h.q1 (by simp), hfro h.q2 (by simp), ⟨_, ((hf2.set _ _).set _ _).set _ _, fun i hi => ?_⟩⟩
  by_cases hij : i = j
  · subst hij
    exact ⟨x, y, s, v, kk, a, c, hd, by simp, by simp, by simp, (hl.same (hsame (by omega))).mono (by omega) (by simp)⟩
  · obtain ⟨x', y', s', v', k', a', c', e, h0, h1, h2, hsl⟩ := hall i (by omega)
    refine ⟨x', y', s', v', k', a', c', e, ?_, ?_, ?_, ((hsl.same (fun b h1 h2 => hb.block b h2)).same (hsame (by omega))).mono (Nat.le_refl _) (by simp; omega)⟩
    · rw [if_neg (by omega), if_neg (by omega), if_neg (by omega)]; exact h0
    · rw [if_neg (by omega), if_neg (by omega), if_neg (by omega)]; exact h1
    · rw [if_neg (by omega), if_neg (by omega), if_neg (by omega)]; exact h2
theorem TmAt.sl {w wr : World} {s : Int} {k : Fo} {j : Nat} (h : TmAt w s k j wr) (hj : flen k ≤ j) : Sl wr (w.heap.size + 3) wr.heap.size (some ⟨w.heap.size + 1 + 1 + 1, 0, none⟩) k := by
  have hs := h.size
  obtain ⟨f, hf, hall⟩ := h.row
  refine .inr ⟨_, 0, rfl, row_of_all k _ 0 (by omega) (by omega) fun i hi => ?_⟩
  obtain ⟨x, y, s, v, kk, a, c, e, h0, h1, h2, hs⟩ := hall i (by omega)
  refine ⟨x, y, s, v, kk, a, c, e, ?_, ?_, ?_, hs.mono (by omega) (Nat.le_refl _)⟩
  · rw [Nat.zero_add, ← h0]; exact hf.cell (by omega)
  · rw [Nat.zero_add, ← h1]; exact hf.cell (by omega)
  · rw [Nat.zero_add, ← h2]; exact hf.cell (by omega)
theorem tm_end {w w1 : World} {s v : Int} {k : Fo} {a : Option Addr} {c : Nat} (hb : Below w.heap.size w w1) (hl : Sl w1 (w.heap.size + 3) w1.heap.size a k) (x y z : Value) :
    TmPost s v k w (.returned (.agg #[.int .i64 s, .int .i64 v, .slice a (flen k) c])) (((w1.setCell ⟨w.heap.size + 1, 0, none⟩ x).setCell ⟨w.heap.size + 1, 1, none⟩ y).setCell ⟨w.heap.size + 1, 2, none⟩ z) := by
  refine ⟨a, c, rfl, ((hb.setCell (by simp) _).setCell (by simp) _).setCell (by simp) _, ?_⟩
  have hs : Same (w.heap.size + 3) w1.heap.size w1 (((w1.setCell ⟨w.heap.size + 1, 0, none⟩ x).setCell ⟨w.heap.size + 1, 1, none⟩ y).setCell ⟨w.heap.size + 1, 2, none⟩ z) :=
    (((Same.setCell (fun _ _ _ => rfl) (.inl (by simp)) _).setCell (.inl (by simp)) _).setCell (.inl (by simp)) _)
  exact (hl.same hs).mono (by omega) (by simp)

set_option maxRecDepth 100000 in
set_option maxHeartbeats 1000000 in
theorem symTerm_any (N : Nat) : ∀ (s : Int) (a : Option Addr) (c : Nat) (k : Fo) (w : World), NSl w 0 w.heap.size a k → fok k = true → fsz k ≤ N → N ≤ 1000000 →
    Calls Tryz.prog 129 #[.agg #[.int .i64 s, .slice a (flen k) c]] w (TmPost s 0 k w) := by
  induction N using Nat.strongRecOn with
  | _ N ih =>
    intro s a c k w hl hok hN hN2
    have hfl := flen_le_sz k
    have IH := Lib.hid ih
    have HOK := Lib.hid hok
    clear ih hok
    by_cases h0 : flen k = 0
    · have hk : k = .nil := by
        cases k with
        | nil => rfl
        | node _ _ _ _ _ => simp [flen] at h0
      subst hk
      clear hl h0
      simp only [flen]
      go_enter Tryz.func129, Tryz.ntmps129
      go_wp2_with fail
      go_loopw [21] (fun i wr => i = .int .i64 0 ∧ wr = (((w.alloc (.cells #[.int .i64 s, .slice a 0 c] 96)).alloc (.cells #[.int .i64 0, .int .i64 0, .slice none 0 0] 25)).alloc (.cells #[.int .i64 s, .int .i64 0, .slice none 0 0] 25))) (fun _ _ => 0)
      case atStart => exact ⟨rfl, rfl⟩
      case round =>
        obtain ⟨rfl, rfl⟩ := hrel
        go_wp2_with fail
        refine bodyPost_ret (v := .agg #[.int .i64 s, .int .i64 0, .slice none 0 0]) ?_ rfl ⟨none, 0, rfl, (((Below.refl _ _).alloc (Nat.le_refl _) _).alloc (by simp) _).alloc (by simp; omega) _, .inl rfl⟩
        simp [results, Tryz.results129, go_sem]
    · have hmk := make_termsA (flen k) (by omega)
      have HST := Lib.hid (TmAt.start w s k (.int .i64 s) (.slice a (flen k) c))
      have hpos : 0 < flen k := by omega
      go_enter Tryz.func129, Tryz.ntmps129
      go_wp2_with fail
      clear hmk
      go_loopw [21] (fun i wr => ∃ j : Nat, j ≤ flen k ∧ i = .int .i64 j ∧ TmAt w s k j wr) (fun i _ => flen k - (intOf i).toNat)
      case atStart => exact ⟨0, by omega, rfl, HST.out⟩
      case round =>
        clear HST
        obtain ⟨j, hj, rfl, hat⟩ := hrel
        have hsr := hat.size
        by_cases hlt : j < flen k
        · rcases hl with rfl | ⟨b, o, rfl, hrow⟩
          · simp [flen] at hlt
          obtain ⟨s', v', kk, val, ⟨x, y, hd⟩, _, hbB, hk0, hn⟩ := nrow_at (hrow.below hat.below) hlt
          have hkN := fsz_kid hd
          have hkok := fok_kid HOK.out hd
          have ht2 := hat.t2
          have hu0 : ∀ u : After wr.heap.size wr, u.world.cell? ⟨w.heap.size + 1 + 1, 2, none⟩ = some (.slice (some ⟨w.heap.size + 1 + 1 + 1, 0, none⟩) (flen k) (flen k)) := fun u => u.cell (by simp; omega) ht2
          have g1 : (0 : Int) ≤ (j : Int) := by omega
          have g2 : (j : Int) < (flen k : Int) := by omega
          have HAT := Lib.hid hat
          have HD := Lib.hid hd
          clear hd hrow hat
          rcases hn with ⟨rfl, rfl, rfl⟩ | ⟨hs', a2, c2, rfl, hn2⟩
          · clear hkok
            go_wp2_with fail
            refine wp_region_mix (fun w' => ∃ u : After wr.heap.size wr, w' = u.world) [6] [(0, 0), (1, 0), (2, 0), (3, 0), (4, 1), (5, 1), (6, 2)] (by kernel_rfl) (by kernel_rfl) ⟨⟨_, (Below.refl _ _).drew⟩, rfl⟩ ?_
            iterate 4
              refine mix_see rfl (fun K hK => ?_)
              go_simp
              refine hK _ ?_
              clear hK K
            clear hu0
            refine mix_hold rfl (fun K hK => ?_)
            go_simp
            refine upon_method 113 (by kernel_rfl) (by kernel_rfl) ?_
            go_simp
            with_reducible refine (varTerm_any v' _).mono ?_
            rintro e w2 ⟨a2', c2', rfl, hb2', hl2⟩
            have hb2 : Below wr.heap.size wr w2 := bl_undrew hb2'
            obtain ⟨f, hf, _⟩ := HAT.out.row
            have hf2 := hf.of_block (hb2.block _ (by omega))
            have hg0 := hf2.cell (i := j * 3) (by omega)
            have hg1 := hf2.cell (i := j * 3 + 1) (by omega)
            have hg2 := hf2.cell (i := j * 3 + 2) (by omega)
            have hz0 := hf2.frozen (j * 3)
            have hz1 := hf2.frozen (j * 3 + 1)
            have hz2 := hf2.frozen (j * 3 + 2)
            have HSTEP := Lib.hid (HAT.out.step (c := c2') HD.out hb2 hl2)
            refine hK _ _ ⟨⟨_, hb2⟩, rfl⟩ ?_
            clear hK K hf hf2 hb2' hl2
            refine mix_hold rfl (fun K hK => ?_)
            go_simp
            refine hK _ _ ⟨⟨_, hb2⟩, rfl⟩ ?_
            clear hK K hb2
            refine mix_late rfl (fun K hK => ?_)
            go_simp
            refine hK _ _ ?_
            clear hK K
            refine mix_end ?_
            clear hg0 hg1 hg2 hz0 hz1 hz2 ht2 hk0
            go_wp2_with fail
            go_roundw
            case rel => exact ⟨j + 1, by omega, by go_num, HSTEP.out⟩
            case measure => simp [intOf]; omega
          · have hv0 : v' = 0 := ((okN_iff _ _ _).1 hkok.1).2.2 hs'
            subst hv0
            have HKK := Lib.hid hkok.2
            have HN2 := Lib.hid hn2
            clear hn2 hkok
            go_wp2_with fail
            refine wp_region_mix (fun w' => ∃ u : After wr.heap.size wr, w' = u.world) [6] [(0, 0), (1, 0), (2, 0), (3, 0), (4, 1), (5, 1), (6, 2)] (by kernel_rfl) (by kernel_rfl) ⟨⟨_, (Below.refl _ _).drew⟩, rfl⟩ ?_
            iterate 4
              refine mix_see rfl (fun K hK => ?_)
              go_simp
              refine hK _ ?_
              clear hK K
            clear hu0
            refine mix_hold rfl (fun K hK => ?_)
            go_simp
            refine upon_method 129 (by kernel_rfl) (by kernel_rfl) ?_
            go_simp
            with_reducible refine (IH.out (fsz kk) (by omega) s' a2 c2 kk _ ?_ HKK.out (Nat.le_refl _) (by omega)).mono ?_
            · exact (HN2.out.below (Below.refl _ _).drew).mono (Nat.le_refl _) (by simp; omega)
            rintro e w2 ⟨a2', c2', rfl, hb2', hl2⟩
            have hb2 : Below wr.heap.size wr w2 := bl_undrew hb2'
            obtain ⟨f, hf, _⟩ := HAT.out.row
            have hf2 := hf.of_block (hb2.block _ (by omega))
            have hg0 := hf2.cell (i := j * 3) (by omega)
            have hg1 := hf2.cell (i := j * 3 + 1) (by omega)
            have hg2 := hf2.cell (i := j * 3 + 2) (by omega)
            have hz0 := hf2.frozen (j * 3)
            have hz1 := hf2.frozen (j * 3 + 1)
            have hz2 := hf2.frozen (j * 3 + 2)
            have HSTEP := Lib.hid (HAT.out.step (c := c2') HD.out hb2 hl2)
            refine hK _ _ ⟨⟨_, hb2⟩, rfl⟩ ?_
            clear hK K hf hf2 hb2' hl2
            refine mix_hold rfl (fun K hK => ?_)
            go_simp
            refine hK _ _ ⟨⟨_, hb2⟩, rfl⟩ ?_
            clear hK K hb2
            refine mix_late rfl (fun K hK => ?_)
            go_simp
            refine hK _ _ ?_
            clear hK K
            refine mix_end ?_
            clear hg0 hg1 hg2 hz0 hz1 hz2 ht2 hk0
            go_wp2_with fail
            go_roundw
            case rel => exact ⟨j + 1, by omega, by go_num, HSTEP.out⟩
            case measure => simp [intOf]; omega
        · have hjk : j = flen k := by omega
          subst hjk
          have HDN := Lib.hid (fun x y z => tm_end (s := s) (v := 0) (c := flen k) hat.below (hat.sl (Nat.le_refl _)) x y z)
          have ht0 := hat.t0
          have ht1 := hat.t1
          have ht2 := hat.t2
          have hr0 := hat.r0
          have hr1 := hat.r1
          have hr2 := hat.r2
          have hq0 := hat.q0
          have hq1 := hat.q1
          have hq2 := hat.q2
          clear hat
          go_wp2_with fail
          refine bodyPost_ret (v := .agg #[.int .i64 s, .int .i64 0, .slice (some ⟨w.heap.size + 1 + 1 + 1, 0, none⟩) (flen k) (flen k)]) ?_ rfl (HDN.out _ _ _)
          simp [results, Tryz.results129, go_sem, hr0, hr1, hr2]
end Go.Proofs.YtpfkhgiiojikbaaGreat
