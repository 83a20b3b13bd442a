/- Several texts in one: LawSVars. -/
import Derived.Test.YtafhhhkinodoiaaKSubst9
import Derived.Test.YtafhhhkinodoiaaKSubst11
import Derived.Test.YtafhhhkinodoiaaKSubst12
import Derived.Test.YtafhhhkinodoiaaKSubst15

/-! LawSVars: laws.FnSubstVars answers true at every code. -/
namespace Go.Proofs.Ytafhhhkinodoiaa
open Go.RowKit Go.Deep
attribute [local go_sem ↓] Go.wp_at_zero Go.wp_at_succ

/-- A row of one's own that grows, beside a row that stays. -/
structure VAt (wB wV : World) (ys : List Int) (A' : Option Addr) (C' : Nat) (wr : World) : Prop where
  low : Below wB.heap.size wB wr
  same : Same (wB.heap.size + 1) wV.heap.size wV wr
  own : IOwn wr wB.heap.size ys A' C'
  blk : ∀ g, (Value.slice A' ys.length C').ownBlock = some g → g = wB.heap.size ∨ wV.heap.size ≤ g
  size : wV.heap.size ≤ wr.heap.size
theorem VAt.next {wB wV wr w2 : World} {ys : List Int} {A' : Option Addr} {C' : Nat} (h : VAt wB wV ys A' C' wr) (hb : Below wr.heap.size wr w2) : VAt wB wV ys A' C' w2 :=
  ⟨h.low.trans (hb.mono h.low.size), fun b h1 h2 => (hb.block b (Nat.lt_of_lt_of_le h2 h.size)).trans (h.same b h1 h2), h.own.low hb, h.blk, Nat.le_trans h.size hb.size⟩
theorem VAt.app {wB wV w2 w3 : World} {ys zs : List Int} {A' A3 : Option Addr} {C' C3 : Nat} (h : VAt wB wV ys A' C' w2) (hown : w3.ownsRow wB.heap.size 3 1 (.slice A3 (ys.length + zs.length) C3) (ys.length + zs.length) (ys.map (Value.int .i64) ++ zs.map (Value.int .i64))) (hg : w2.grownBy w3 (Value.slice A' ys.length C').ownBlock)
    (hat : (Value.slice A3 (ys.length + zs.length) C3).ownBlock = (Value.slice A' ys.length C').ownBlock ∨ (Value.slice A3 (ys.length + zs.length) C3).ownBlock = some w2.heap.size) : VAt wB wV (ys ++ zs) A3 C3 w3 := by
  have hl : (ys ++ zs).length = ys.length + zs.length := List.length_append
  have hlt : ∀ g, (Value.slice A' ys.length C').ownBlock = some g → wB.heap.size ≤ g := fun g hg => (h.own.lt g hg).1
  have h2 := h.low.size
  have h3 := h.size
  refine ⟨h.low.grown hg h2 hlt, fun b h1 h4 => (hg.block b (by omega) (fun e => by have := h.blk b e.symm; omega)).trans (h.same b h1 h4), ?_, fun g hg' => ?_, Nat.le_trans h.size hg.size⟩
  · unfold IOwn
    rw [hl, List.map_append]
    exact hown
  · rw [hl] at hg'
    rcases hat with e | e
    · exact h.blk g (by rw [← e]; exact hg')
    · have : g = w2.heap.size := by rw [e] at hg'; exact (Option.some.inj hg').symm
      omega
theorem var_sub {bs : List Bd} (hs : sok 16 bs = true) {y : Int} (h0 : 0 ≤ y) (h1 : y ≤ 11) : ∃ s3 v3 k3, sdR bs 0 y .nil = (s3, v3, k3, true) ∧ tsub (sv bs) 0 y .nil = (s3, v3, k3) ∧ okW s3 v3 k3 16 = true := by
  have ho : okW 0 y .nil 16 = true := (okW_iff _ _ _ _).2 ⟨(okN_iff _ _ _).2 ⟨by simp [flen, ar], fun _ => ⟨h0, h1⟩, fun h => absurd rfl h⟩, rfl, by simp [fsz]⟩
  generalize htt : tsub (sv bs) 0 y .nil = tt
  obtain ⟨s3, v3, k3⟩ := tt
  have hk : 1 + fsz k3 ≤ 16 := by
    have h2 : tsub (sv bs) 0 y .nil = (sv bs y).getD (0, y, .nil) := by rw [tsub, if_pos rfl]
    rw [h2] at htt
    cases hv : sv bs y with
    | none => rw [hv] at htt; simp only [Option.getD_none, Prod.mk.injEq] at htt; obtain ⟨_, _, rfl⟩ := htt; simp [fsz]
    | some t => rw [hv] at htt; simp only [Option.getD_some] at htt; subst htt; have := ((okW_iff _ _ _ _).1 (sv_ok bs (-1) hs y _ hv)).2.2; dsimp only at this; omega
  have hd := sdR_of hs ho htt hk
  rcases sdR_cases hd with ⟨h, _⟩ | ⟨_, _, _, _, hx⟩
  · cases h
  exact ⟨s3, v3, k3, hd, rfl, hx⟩
/-- The variables of what the first j variables stand for. -/
def VM (bs : List Bd) (xs : List Int) (j : Nat) (ys : List Int) : Prop := ∀ x, x ∈ ys ↔ ∃ q y, q < j ∧ xs[q]? = some y ∧ x ∈ tvR (tsub (sv bs) 0 y .nil).1 (tsub (sv bs) 0 y .nil).2.1 (tsub (sv bs) 0 y .nil).2.2
theorem VM.start (bs : List Bd) (xs : List Int) : VM bs xs 0 [] := fun x => by simp
theorem VM.step {bs : List Bd} {xs ys : List Int} {j : Nat} {y s3 v3 : Int} {k3 : Fo} (h : VM bs xs j ys) (hy : xs[j]? = some y) (ht : tsub (sv bs) 0 y .nil = (s3, v3, k3)) : VM bs xs (j + 1) (ys ++ tvR s3 v3 k3) := fun x => by
  rw [List.mem_append, h x]
  constructor
  · rintro (⟨q, z, hq, hz, hx⟩ | hx)
    · exact ⟨q, z, by omega, hz, hx⟩
    · exact ⟨j, y, by omega, hy, by rw [ht]; exact hx⟩
  · rintro ⟨q, z, hq, hz, hx⟩
    by_cases e : q = j
    · subst e
      rw [hy] at hz
      obtain rfl := Option.some.inj hz
      rw [ht] at hx
      exact .inr hx
    · exact .inl ⟨q, z, by omega, hz, hx⟩
theorem VM.all {bs : List Bd} {s v : Int} {k : Fo} {sx vx : Int} {kx : Fo} {ys : List Int} (hd : sdR bs s v k = (sx, vx, kx, true)) (h : VM bs (tvR s v k) (tvR s v k).length ys) (x : Int) : x ∈ tvR sx vx kx ↔ x ∈ ys := by
  rcases sdR_cases hd with ⟨h', _⟩ | ⟨_, hsok, hok, ht, hokx⟩
  · cases h'
  have hs := fvs_sub (sv bs) x s v k (fun e => by subst e; exact kids_none ((okW_iff _ _ _ _).1 hok).1)
  rw [ht] at hs
  rw [tvR_mem hokx, hs, h x]
  constructor
  · rintro ⟨y, hy, hx⟩
    have hin := fvs_in hok y hy
    obtain ⟨s3, v3, k3, _, h2, h3⟩ := var_sub hsok hin.1 hin.2
    obtain ⟨q, hq, e⟩ := List.getElem_of_mem ((tvR_mem hok y).2 hy)
    refine ⟨q, y, hq, by rw [List.getElem?_eq_getElem hq, e], ?_⟩
    rw [h2] at hx ⊢
    exact (tvR_mem h3 x).2 hx
  · rintro ⟨q, y, _, hq, hx⟩
    have hy := (tvR_mem hok y).1 (List.mem_of_getElem? hq)
    have hin := fvs_in hok y hy
    obtain ⟨s3, v3, k3, _, h2, h3⟩ := var_sub hsok hin.1 hin.2
    refine ⟨y, hy, ?_⟩
    rw [h2] at hx ⊢
    exact (tvR_mem h3 x).1 hx

set_option maxRecDepth 100000 in
set_option maxHeartbeats 4000000 in
theorem substVars_walk (a0 : Option Addr) (len cap : Nat) (w : World) (hby : Bytes w a0 len) (hlen : len ≤ cap) :
    Calls Try.prog 6 #[.slice a0 len cap] w fun e w' => e = .returned (.bool true) ∧ Below w.heap.size w w' := by
  have HBY := Lib.hid hby
  clear hby
  by_cases hbiglen : 1048576 < len
  · go_enter Try.func6, Try.ntmps6
    go_wp2_with fail
    go_ret
    exact ⟨rfl, Below.refl _ _⟩
  go_enter Try.func6, Try.ntmps6
  go_wp2_with fail
  with_reducible refine (DrawSubstDo_any a0 len cap _ HBY.out hlen).mono ?_
  rintro e wa ⟨bs, A, C, s, v, a, c, k, rfl, hbl, hSk, hb, hi, hl⟩
  have Hlow := Lib.hid hb
  have HBS : Hid (BSl wa 0 wa.heap.size A bs) := hi.mono (Nat.zero_le _) (Nat.le_refl _)
  have HL := Lib.hid hl
  clear hb hi hl HBY
  have hbx : Below wa.heap.size wa (wa.alloc (.cells #[.int .i64 s, .int .i64 v, .slice a (flen k) c] 26)) := box_low _ _
  have Hn : Hid (Tb wa.heap.size s v a c k (wa.alloc (.cells #[.int .i64 s, .int .i64 v, .slice a (flen k) c] 26))) := Tb.new HL.out
  have Hlow' : Hid (Below w.heap.size w (wa.alloc (.cells #[.int .i64 s, .int .i64 v, .slice a (flen k) c] 26))) := below_next Hlow.out hbx
  have HBS' : Hid (BSl (wa.alloc (.cells #[.int .i64 s, .int .i64 v, .slice a (flen k) c] 26)) 0 (wa.alloc (.cells #[.int .i64 s, .int .i64 v, .slice a (flen k) c] 26)).heap.size A bs) := HBS.out.next hbx
  clear Hlow HBS
  have Hlow := Hlow'
  clear Hlow'
  have HBS := HBS'
  clear HBS'
  have Ht := Hn
  clear Hn hbx
  have qt0 := Ht.out.c0
  have qt1 := Ht.out.c1
  have qt2 := Ht.out.c2
  go_wp2_with fail
  with_reducible refine (sSubstDo_any bs A C s v a c k _ HBS.out (by omega) Ht.out.sl).mono ?_
  rintro e wx1 ⟨aw, cw, sw, vw, kw, tw, hdw, rfl, hb, hlw⟩
  have HDw := Lib.hid hdw
  clear hdw
  clear qt0 qt1 qt2
  have Hlow' : Hid (Below w.heap.size w wx1) := below_next Hlow.out hb
  have HBS' : Hid (BSl wx1 0 wx1.heap.size A bs) := HBS.out.next hb
  have Ht' : Hid (Tb wa.heap.size s v a c k wx1) := Ht.out.next hb
  clear Hlow HBS Ht
  have Hlow := Hlow'
  clear Hlow'
  have HBS := HBS'
  clear HBS'
  have Ht := Ht'
  clear Ht'
  clear hb
  have Hlw := Lib.hid hlw
  clear hlw
  have hbx : Below wx1.heap.size wx1 (wx1.alloc (.cells #[.int .i64 sw, .int .i64 vw, .slice aw (flen kw) cw] 26)) := box_low _ _
  have Hn : Hid (Tb wx1.heap.size sw vw aw cw kw (wx1.alloc (.cells #[.int .i64 sw, .int .i64 vw, .slice aw (flen kw) cw] 26))) := Tb.new Hlw.out
  have Hlow' : Hid (Below w.heap.size w (wx1.alloc (.cells #[.int .i64 sw, .int .i64 vw, .slice aw (flen kw) cw] 26))) := below_next Hlow.out hbx
  have HBS' : Hid (BSl (wx1.alloc (.cells #[.int .i64 sw, .int .i64 vw, .slice aw (flen kw) cw] 26)) 0 (wx1.alloc (.cells #[.int .i64 sw, .int .i64 vw, .slice aw (flen kw) cw] 26)).heap.size A bs) := HBS.out.next hbx
  have Ht' : Hid (Tb wa.heap.size s v a c k (wx1.alloc (.cells #[.int .i64 sw, .int .i64 vw, .slice aw (flen kw) cw] 26))) := Ht.out.next hbx
  clear Hlow HBS Ht
  have Hlow := Hlow'
  clear Hlow'
  have HBS := HBS'
  clear HBS'
  have Ht := Ht'
  clear Ht'
  have Hw := Hn
  clear Hn hbx
  clear Hlw
  have qt0 := Ht.out.c0
  have qt1 := Ht.out.c1
  have qt2 := Ht.out.c2
  go_wp2_with fail
  with_reducible refine (iSubstDo_any bs A C s v a c k _ HBS.out (by omega) Ht.out.sl).mono ?_
  rintro e wx2 ⟨ax, cx, sx, vx, kx, tx, hdx, rfl, hb, hlx⟩
  rw [HDw.out] at hdx
  simp only [Prod.mk.injEq] at hdx
  obtain ⟨rfl, rfl, rfl, rfl⟩ := hdx
  clear qt0 qt1 qt2
  have Hlow' : Hid (Below w.heap.size w wx2) := below_next Hlow.out hb
  have HBS' : Hid (BSl wx2 0 wx2.heap.size A bs) := HBS.out.next hb
  have Ht' : Hid (Tb wa.heap.size s v a c k wx2) := Ht.out.next hb
  have Hw' : Hid (Tb wx1.heap.size sw vw aw cw kw wx2) := Hw.out.next hb
  clear Hlow HBS Ht Hw
  have Hlow := Hlow'
  clear Hlow'
  have HBS := HBS'
  clear HBS'
  have Ht := Ht'
  clear Ht'
  have Hw := Hw'
  clear Hw'
  clear hb
  have Hlx := Lib.hid hlx
  clear hlx
  have hbx : Below wx2.heap.size wx2 (wx2.alloc (.cells #[.int .i64 sw, .int .i64 vw, .slice ax (flen kw) cx] 26)) := box_low _ _
  have Hn : Hid (Tb wx2.heap.size sw vw ax cx kw (wx2.alloc (.cells #[.int .i64 sw, .int .i64 vw, .slice ax (flen kw) cx] 26))) := Tb.new Hlx.out
  have Hlow' : Hid (Below w.heap.size w (wx2.alloc (.cells #[.int .i64 sw, .int .i64 vw, .slice ax (flen kw) cx] 26))) := below_next Hlow.out hbx
  have HBS' : Hid (BSl (wx2.alloc (.cells #[.int .i64 sw, .int .i64 vw, .slice ax (flen kw) cx] 26)) 0 (wx2.alloc (.cells #[.int .i64 sw, .int .i64 vw, .slice ax (flen kw) cx] 26)).heap.size A bs) := HBS.out.next hbx
  have Ht' : Hid (Tb wa.heap.size s v a c k (wx2.alloc (.cells #[.int .i64 sw, .int .i64 vw, .slice ax (flen kw) cx] 26))) := Ht.out.next hbx
  have Hw' : Hid (Tb wx1.heap.size sw vw aw cw kw (wx2.alloc (.cells #[.int .i64 sw, .int .i64 vw, .slice ax (flen kw) cx] 26))) := Hw.out.next hbx
  clear Hlow HBS Ht Hw
  have Hlow := Hlow'
  clear Hlow'
  have HBS := HBS'
  clear HBS'
  have Ht := Ht'
  clear Ht'
  have Hw := Hw'
  clear Hw'
  have Hx := Hn
  clear Hn hbx
  clear Hlx
  have hkw := sdR_sz HDw.out
  have eb : (tw != tw) = false := by simp
  have eb2 : (tw == tw) = true := by simp
  have qx0 := Hx.out.c0
  have qx1 := Hx.out.c1
  have qx2 := Hx.out.c2
  have qw0 := Hw.out.c0
  have qw1 := Hw.out.c1
  have qw2 := Hw.out.c2
  go_wp2_with fail
  with_reducible refine (laTerm_same (fsz kw) sw vw ax aw cx cw kw _ Hx.out.sl Hw.out.sl (Nat.le_refl _) (by omega)).mono ?_
  rintro e wx3 ⟨rfl, hb⟩
  clear qx0 qx1 qx2 qw0 qw1 qw2
  have Hlow' : Hid (Below w.heap.size w wx3) := below_next Hlow.out hb
  have HBS' : Hid (BSl wx3 0 wx3.heap.size A bs) := HBS.out.next hb
  have Ht' : Hid (Tb wa.heap.size s v a c k wx3) := Ht.out.next hb
  have Hw' : Hid (Tb wx1.heap.size sw vw aw cw kw wx3) := Hw.out.next hb
  have Hx' : Hid (Tb wx2.heap.size sw vw ax cx kw wx3) := Hx.out.next hb
  clear Hlow HBS Ht Hw Hx
  have Hlow := Hlow'
  clear Hlow'
  have HBS := HBS'
  clear HBS'
  have Ht := Ht'
  clear Ht'
  have Hw := Hw'
  clear Hw'
  have Hx := Hx'
  clear Hx'
  clear hb
  cases tw with
  | false =>
    have qx0 := Hx.out.c0
    have qx1 := Hx.out.c1
    have qx2 := Hx.out.c2
    have qw0 := Hw.out.c0
    have qw1 := Hw.out.c1
    have qw2 := Hw.out.c2
    go_wp2_with fail
    with_reducible refine (laTerm_same (fsz kw) sw vw ax aw cx cw kw _ Hx.out.sl Hw.out.sl (Nat.le_refl _) (by omega)).mono ?_
    rintro e wx4 ⟨rfl, hb⟩
    clear qx0 qx1 qx2 qw0 qw1 qw2
    have Hlow' : Hid (Below w.heap.size w wx4) := below_next Hlow.out hb
    have HBS' : Hid (BSl wx4 0 wx4.heap.size A bs) := HBS.out.next hb
    have Ht' : Hid (Tb wa.heap.size s v a c k wx4) := Ht.out.next hb
    have Hw' : Hid (Tb wx1.heap.size sw vw aw cw kw wx4) := Hw.out.next hb
    have Hx' : Hid (Tb wx2.heap.size sw vw ax cx kw wx4) := Hx.out.next hb
    clear Hlow HBS Ht Hw Hx
    have Hlow := Hlow'
    clear Hlow'
    have HBS := HBS'
    clear HBS'
    have Ht := Ht'
    clear Ht'
    have Hw := Hw'
    clear Hw'
    have Hx := Hx'
    clear Hx'
    clear hb
    go_wp2_with fail
    go_ret
    exact ⟨rfl, Hlow.out⟩
  | true =>
    clear eb eb2
    have HOK : Hid (okW s v k 16 = true) := by rcases sdR_cases HDw.out with ⟨h, _⟩ | ⟨_, _, h, _⟩; cases h; exact h
    have HOKX : Hid (okW sw vw kw 16 = true) := by rcases sdR_cases HDw.out with ⟨h, _⟩ | ⟨_, _, _, _, h⟩; cases h; exact h
    have hk16 := ((okW_iff _ _ _ _).1 HOK.out).2.2
    clear Hw
    have HSOK : Hid (sok 16 bs = true) := by rcases sdR_cases HDw.out with ⟨h, _⟩ | ⟨_, h, _⟩; cases h; exact h
    obtain ⟨ti, hti, htz, hts, htb'⟩ := Try.infoI
    have HTI : Hid (Try.prog.info? 3 = some ti ∧ ti.zero = some (.int .i64 0) ∧ ti.size = 1 ∧ ti.bytes = 8) := ⟨hti, htz, hts, htb'⟩
    clear hti htz hts htb'
    have qt0 := Ht.out.c0
    have qt1 := Ht.out.c1
    have qt2 := Ht.out.c2
    have hba : Below wx3.heap.size wx3 (wx3.alloc (.cells #[] 3)) := box_low _ _
    have qb0 := cell_low hba qt0
    have qb1 := cell_low hba qt1
    have qb2 := cell_low hba qt2
    have HTA := Lib.hid (Ht.out.next hba)
    clear qt0 qt1 qt2 hba
    go_wp2_with fail
    with_reducible refine (iTermVars_any s v a c k _ HTA.out.sl).mono ?_
    rintro e wV ⟨AV, CV, xs, rfl, rfl, hb, hown⟩
    clear qb0 qb1 qb2
    have hb1 : Below (wx3.heap.size + 1) (wx3.alloc (.cells #[] 3)) wV := hb.mono (by simp)
    have hsV := hb1.size
    simp at hsV
    have HV : Hid (ISl wV (wx3.heap.size + 1) wV.heap.size AV (tvR s v k)) := hown.sl.mono (by simp) (Nat.le_refl _)
    have HA0 : Hid (VAt wx3 wV [] (some ⟨wx3.heap.size, 0, none⟩) 0 wV) := by
      refine ⟨((Below.refl _ _).alloc (Nat.le_refl _) (.cells #[] 3)).trans (hb.mono (by simp)), fun _ _ _ => rfl, ?_, fun g hg => ?_, Nat.le_refl _⟩
      · refine own_low hb ⟨rfl, .inr ⟨wx3.heap.size, 0, #[], rfl, Nat.le_refl _, heap_alloc_new _ _, Nat.le_refl _, by decide, rfl, rfl⟩⟩
      · have : g = wx3.heap.size := by simpa [Value.ownBlock] using hg.symm
        exact .inl this
    have hvl := tvR_len s v k
    clear hb hb1 hown HTA
    go_wp2_with fail
    go_loopw [9, 11] (fun t i wr => ∃ (j : Nat) (ys : List Int) (A' : Option Addr) (C' : Nat), t = .slice A' ys.length C' ∧ i = .int .i64 j ∧ j ≤ (tvR s v k).length ∧ ys.length ≤ 12 * j ∧ Hid (VM bs (tvR s v k) j ys) ∧ Hid (VAt wx3 wV ys A' C' wr)) (fun _ i _ => (tvR s v k).length - (intOf i).toNat)
    case atStart => exact ⟨0, [], _, _, rfl, rfl, Nat.zero_le _, Nat.le_refl _, VM.start _ _, HA0⟩
    case round =>
      clear HA0
      obtain ⟨j, ys, A', C', rfl, rfl, hj, hyl, HM, HA⟩ := hrel
      by_cases hlt : j < (tvR s v k).length
      · obtain ⟨y, hy⟩ : ∃ y, (tvR s v k)[j]? = some y := ⟨_, List.getElem?_eq_getElem hlt⟩
        have hin := fvs_in HOK.out y ((tvR_mem HOK.out y).1 (List.mem_of_getElem? hy))
        obtain ⟨s3, v3, k3, hsd, hts, hok3⟩ := var_sub HSOK.out hin.1 hin.2
        obtain ⟨vb, vo, hAV, hv1, hv2, hvc⟩ := isl_at HV.out hlt
        subst hAV
        have hyE : (tvR s v k)[j] = y := by rw [List.getElem?_eq_getElem hlt] at hy; exact Option.some.inj hy
        rw [hyE] at hvc
        have hvc2 : wr.cell? ⟨vb, vo + j, none⟩ = some (.int .i64 y) := (HA.out.same.cell hv1 hv2).trans hvc
        have HMS := Lib.hid (HM.out.step hy hts)
        have HSD := Lib.hid hsd
        have HOK3 := Lib.hid hok3
        have h3l := tvR_len s3 v3 k3
        clear hy hsd hts hok3 hvc hyE HM hin
        have g1 : (0 : Int) ≤ (j : Int) := by omega
        have g2 : (j : Int) < ((tvR s v k).length : Int) := by omega
        have HBSr : Hid (BSl wr 0 wr.heap.size A bs) := HBS.out.next HA.out.low
        have HCC := Lib.hid (fun w0 hb => iSubstDo_any bs A C 0 y none 0 .nil w0 hb (by omega) (.inl rfl))
        go_wp2_with fail
        refine (HCC.out _ HBSr.out).mono ?_
        rintro e w1 ⟨aq, cq, sq, vq, kq, tq, hdq, rfl, hb, hlq⟩
        rw [HSD.out] at hdq
        simp only [Prod.mk.injEq] at hdq
        obtain ⟨rfl, rfl, rfl, rfl⟩ := hdq
        have HA1 := Lib.hid ((HA.out.next hb).next (box_low w1 (.cells #[.int .i64 s3, .int .i64 v3, .slice aq (flen k3) cq] 26)))
        have Hq := Lib.hid (Tb.new (s := s3) (v := v3) (c := cq) hlq)
        clear hb hlq hvc2 HA HBSr HCC
        have qq0 := Hq.out.c0
        have qq1 := Hq.out.c1
        have qq2 := Hq.out.c2
        go_wp2_with fail
        generalize w1.alloc (.cells #[.int .i64 s3, .int .i64 v3, .slice aq (flen k3) cq] 26) = w2 at *
        with_reducible refine (iTermVars_any s3 v3 aq cq k3 _ Hq.out.sl).mono ?_
        rintro e w4 ⟨AZ, CZ, zs, hzs, rfl, hb4, hown4⟩
        have HA4 := Lib.hid (HA1.out.next hb4)
        have HZ := Lib.hid hown4.sl
        have HZO := Lib.hid hown4
        have hzl : zs.length ≤ 12 := by rw [hzs]; exact h3l
        rw [← hzs] at HMS
        clear qq0 qq1 qq2 hb4 hown4 HA1 Hq hzs
        have hsz4 := HA4.out.low.size
        have HSRC : Hid (Src w4 1 AZ zs.length (zs.map (Value.int .i64))) := src_of_isl HZ.out (fun h => by subst h; cases zs with | nil => rfl | cons z r => exact absurd (HZO.out.form (by simp)) (by rintro ⟨g, cap, hv, _⟩; cases hv))
        have HIO : Hid (w4.ownsRow wx3.heap.size 3 1 (.slice A' ys.length C') ys.length (ys.map (Value.int .i64))) := HA4.out.own
        go_wp2_with (at_builtin; refine wpList_append_src _ rfl _ _ 33 rfl wx3.heap.size 3 ti _ 1 8 Try.underlying33 HTI.out.1 HTI.out.2.1 HTI.out.2.2.1 HTI.out.2.2.2 rfl (by omega) (.slice A' ys.length C') ys.length (ys.map (Value.int .i64)) rfl HIO.out AZ zs.length CZ (zs.map (Value.int .i64)) rfl HSRC.out (by simp [Value.oneCell']) (by unfold maxLen; omega) (by omega) (by omega) ?_; intro A5 C5 w5 hown5 hgrow5 hat5; have HA5 := Lib.hid (HA4.out.app hown5 hgrow5 hat5); clear hown5 hgrow5 hat5)
        have hl5 : (ys ++ zs).length = ys.length + zs.length := List.length_append
        go_roundw
        case rel => exact ⟨j + 1, ys ++ zs, A5, C5, by rw [hl5], by go_num, by omega, by omega, HMS, HA5⟩
        case measure => simp [intOf]; omega
      · have hjE : j = (tvR s v k).length := by omega
        subst hjE
        have HALL := Lib.hid (HM.out.all HDw.out)
        clear HM
        have Hlow' : Hid (Below w.heap.size w wr) := below_next Hlow.out HA.out.low
        clear Hlow
        have Hlow := Hlow'
        clear Hlow'
        have Hx' : Hid (Tb wx2.heap.size sw vw ax cx kw wr) := Hx.out.next HA.out.low
        clear Hx
        have Hx := Hx'
        clear Hx'
        have qx0 := Hx.out.c0
        have qx1 := Hx.out.c1
        have qx2 := Hx.out.c2
        go_wp2_with fail
        with_reducible refine (iTermVars_any sw vw ax cx kw _ Hx.out.sl).mono ?_
        rintro e wN ⟨AN, CN, ns, rfl, rfl, hb, hownN⟩
        clear qx0 qx1 qx2
        have HN : Hid (ISl wN 0 wN.heap.size AN (tvR sw vw kw)) := hownN.sl.mono (Nat.zero_le _) (Nat.le_refl _)
        have HYS : Hid (ISl wN 0 wN.heap.size A' ys) := HA.out.own.sl.next hb
        have HLW := Lib.hid (below_next Hlow.out hb)
        have hnl := tvR_len sw vw kw
        clear hb hownN HA Hlow Hx
        go_wp2_with fail
        go_loopw [15] (fun i wq => ∃ (q : Nat), i = .int .i64 q ∧ q ≤ 12 ∧ Hid (ISl wq 0 wq.heap.size AN (tvR sw vw kw)) ∧ Hid (ISl wq 0 wq.heap.size A' ys) ∧ Hid (Below w.heap.size w wq)) (fun i _ => 12 - (intOf i).toNat)
        case atStart => exact ⟨0, rfl, Nat.zero_le _, HN, HYS, HLW⟩
        case round =>
          clear HN HYS HLW
          obtain ⟨q, rfl, hq, HN, HYS, HLW⟩ := hrel
          by_cases hq12 : q < 12
          · have g5 : (q : Int) < 12 := by omega
            have HEQ : Hid (decide ((q : Int) ∈ tvR sw vw kw) = decide ((q : Int) ∈ ys)) := by rw [Hid]; exact decide_eq_decide.2 (HALL.out q)
            generalize hd1 : decide ((q : Int) ∈ tvR sw vw kw) = d1 at HEQ
            have HD1 := Lib.hid hd1
            clear hd1
            go_wp2_with fail
            with_reducible refine (laIn_any (tvR sw vw kw) AN CN (q : Int) _ HN.out (by omega)).mono ?_
            rw [HD1.out]
            rintro e wq1 ⟨rfl, hb⟩
            have HN1 := Lib.hid (HN.out.next hb)
            have HYS1 := Lib.hid (HYS.out.next hb)
            have HLW1 := Lib.hid (below_next HLW.out hb)
            clear hb HN HYS HLW
            go_wp2_with fail
            with_reducible refine (laIn_any ys A' C' (q : Int) _ HYS1.out (by omega)).mono ?_
            rw [← HEQ.out]
            rintro e wq2 ⟨rfl, hb⟩
            have HN2 := Lib.hid (HN1.out.next hb)
            have HYS2 := Lib.hid (HYS1.out.next hb)
            have HLW2 := Lib.hid (below_next HLW1.out hb)
            clear hb HN1 HYS1 HLW1
            have eb : (d1 != d1) = false := by simp
            go_wp2_with fail
            go_roundw
            case rel => exact ⟨q + 1, by go_num, by omega, HN2, HYS2, HLW2⟩
            case measure => simp [intOf]; omega
          · go_wp2_with fail
            go_ret
            exact ⟨rfl, HLW.out⟩
end Go.Proofs.Ytafhhhkinodoiaa
