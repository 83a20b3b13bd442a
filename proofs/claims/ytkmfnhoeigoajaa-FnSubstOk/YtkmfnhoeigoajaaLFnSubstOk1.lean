/- Several texts in one: SOk, LawSOk. -/
import Derived.Test.YtkmfnhoeigoajaaKSub4
import Derived.Test.YtkmfnhoeigoajaaKSub5
import Derived.Test.YtkmfnhoeigoajaaKSub11
import Derived.Test.YtkmfnhoeigoajaaKSub13

/-! SOk: The program's SubstOk; DrawSubstOk; the first binds of a row. -/
namespace Go.Proofs.Ytkmfnhoeigoajaa
open Go.RowKit Go.Deep

set_option maxRecDepth 100000 in
theorem iSubstOk_any (bs : List Bd) (A : Option Addr) (C : Nat) (w : World) (hb : BSl w 0 w.heap.size A bs) (hl : bs.length ≤ 9223372036854775807) :
    Calls Try.prog 19 #[.slice A bs.length C] w fun e w' => e = .returned (.bool (sok 16 bs)) ∧ Below w.heap.size w w' := by
  have HB := Lib.hid hb
  clear hb
  go_enter Try.func19, Try.ntmps19
  go_wp2_with fail
  with_reducible refine (substOf_any bs A C 16 _ HB.out hl (by omega) (by omega)).mono ?_
  rintro e w1 ⟨hb1, hcase⟩
  have HB1 := Lib.hid hb1
  clear hb1
  rcases hcase with ⟨hs, b, rfl, _, _⟩ | ⟨hs, rfl⟩
  · have HS := Lib.hid hs
    clear hs
    go_wp2_with fail
    go_ret
    exact ⟨by rw [HS.out]; rfl, HB1.out⟩
  · have HS := Lib.hid hs
    clear hs
    go_wp2_with fail
    go_ret
    exact ⟨by rw [HS.out]; rfl, HB1.out⟩

theorem sokFrom_take {room : Int} : ∀ (bs : List Bd) (last : Int) (n : Nat), sokFrom room last bs = true → sokFrom room last (bs.take n) = true
  | [], _, _, _ => by simp [sokFrom]
  | _ :: _, _, 0, _ => by simp [sokFrom]
  | x :: r, last, n + 1, h => by
    simp only [sokFrom, Bool.and_eq_true, List.take_succ_cons] at h ⊢
    exact ⟨h.1, h.2.1, h.2.2.1, sokFrom_take r x.1 n h.2.2.2⟩
theorem BSl.take {w : World} {lo B : Nat} {A : Option Addr} {bs : List Bd} (h : BSl w lo B A bs) (n : Nat) : BSl w lo B A (bs.take n) := by
  rcases h with rfl | ⟨b, o, e, h1, h2, h3⟩
  · exact .inl (by simp)
  · refine .inr ⟨b, o, e, h1, h2, fun i x hx => h3 i x ?_⟩
    rw [List.getElem?_take] at hx
    split at hx
    · exact hx
    · cases hx
theorem cutB_to {A : Option Addr} {L C n : Nat} (hn : n ≤ L) (hc : L ≤ C) (w : World) : (Instr.slice 23 (.slice A L C) none (some (.int .i64 (n : Int))) none).run Try.prog w = .ok (.slice A n C) w := by
  obtain ⟨ti, hti, htz, hts, htb⟩ := Try.infoBind
  have hsz : ∀ w : World, (sizeOf (Try.prog.elem 23)).run Try.prog w = .ok 4 w := fun w => by
    have he : Try.prog.elem 23 = 71 := by kernel_rfl
    rw [he]
    simp [sizeOf, typeInfo, hti, hts]
  have hel : Try.prog.underlying 23 = some (.slice (Try.prog.elem 23)) := by kernel_rfl
  rw [run_slice_h (P := Try.prog) w 23 A L C hel .i64 (n : Int) (by omega) (by omega), hsz]
  cases A <;> simp [Result.andThen, sliced, Addr.add]
theorem BOwn.cap {w : World} {base : Nat} {bs : List Bd} {A : Option Addr} {C : Nat} (h : BOwn w base bs A C) : bs.length ≤ C := by
  obtain ⟨xs, hown, _⟩ := h
  rcases hown.2 with ⟨_, h2⟩ | ⟨g, cap, cur, h3, _, _, h6, _⟩
  · omega
  · simp only [Value.slice.injEq] at h3
    omega

def DsoPost (w : World) (e : Ending) (w' : World) : Prop :=
  ∃ bs A C, e = .returned (.slice A (List.length bs) C) ∧ bs.length ≤ 21 ∧ bs.length ≤ C ∧ Below w.heap.size w w' ∧ BSl w' w.heap.size w'.heap.size A bs

set_option maxRecDepth 100000 in
set_option maxHeartbeats 1000000 in
theorem DrawSubstOk_any (a : Option Addr) (len cap : Nat) (w : World) (hby : Bytes w a len) (hlen : len ≤ cap) :
    Calls Try.prog 18 #[.slice a len cap] w (DsoPost w) := by
  have HBY := Lib.hid hby
  obtain ⟨ti, hti, htz, hts, htb⟩ := Try.infoBind
  have HTI : Hid (Try.prog.info? 71 = some ti ∧ ti.zero = some (.agg #[.int .i64 0, .int .i64 0, .int .i64 0, .slice none 0 0]) ∧ ti.size = 4 ∧ ti.bytes = 48) := ⟨hti, htz, hts, htb⟩
  clear hby hti htz hts htb
  go_enter Try.func18, Try.ntmps18
  go_wp2_with fail
  with_reducible refine (l6Open_any a len cap _ HBY.out hlen).mono ?_
  rintro e w1 ⟨rfl, hb1, hrd⟩
  have hs1 := hb1.size
  have hlt1 := hrd.lt
  have HRD := Lib.hid hrd
  have HB1 := Lib.hid hb1
  clear hb1 hrd
  have HC : Hid (Calls Try.prog 27 #[.pointer (some ⟨w.heap.size, 0, none⟩), .int .i64 4] w1 (SbPost w.heap.size 0 w1)) := l71Subst_any 4 w.heap.size 0 _ HRD.out (by omega) (by omega) (by omega)
  go_wp2_with fail
  with_reducible refine HC.out.mono ?_
  rintro e w2 ⟨bs, A, C, p2, rfl, hbl, _, hp2, ha2, ho2⟩
  have hs2 := ha2.size
  have HR2 := Lib.hid (ha2.rd HRD.out)
  have HA2 := Lib.hid ha2
  have HO2 := Lib.hid ho2
  clear ha2 ho2 HC
  go_wp2_with fail
  with_reducible refine (pick_any 3 w.heap.size p2 _ HR2.out (by omega) (by omega) (by omega)).mono ?_
  rintro e w3 ⟨x3, rfl, hx3, hb3⟩
  have ha3 : Adv w2 w.heap.size (p2 + 1) w3 := hb3
  have hs3 := ha3.size
  have HR3 := Lib.hid (ha3.rd HR2.out)
  have HA3 := Lib.hid (HA2.out.trans ha3)
  have HO3 := Lib.hid (HO2.out.adv ha3 hlt1)
  clear hb3 ha3
  by_cases hz : x3 = 0
  · subst hz
    go_wp2_with fail
    with_reducible refine (pick_any 14 w.heap.size (p2 + 1) _ HR3.out (by omega) (by omega) (by omega)).mono ?_
    rintro e w4 ⟨x4, rfl, hx4, hb4⟩
    have ha4 : Adv w3 w.heap.size (p2 + 1 + 1) w4 := hb4
    have hs4 := ha4.size
    have HR4 := Lib.hid (ha4.rd HR3.out)
    have HA4 := Lib.hid (HA3.out.trans ha4)
    have HO4 := Lib.hid (HO3.out.adv ha4 hlt1)
    have hx14 : x4 < 14 := by omega
    clear hb4 ha4
    go_wp2_with fail
    with_reducible refine (l71Some_any w.heap.size (p2 + 1 + 1) _ HR4.out (by omega)).mono ?_
    rintro e w5 ⟨s, v, a5, c5, k, p5, rfl, _, hp5, hS5, ha5, hl5⟩
    have hs5 := ha5.size
    obtain ⟨xs, hown, hall⟩ := HO4.out
    have HOWN : Hid (w5.ownsRow w1.heap.size 71 4 (.slice A bs.length C) bs.length xs) := own_block hown fun g hg => by
      have h1 := hown.lt g hg
      exact ha5.same (lo := g) (B := g + 1) (by omega) (by omega) g (Nat.le_refl _) (by omega)
    have HAP := Lib.hid (fun g cap w6 => BOwn.append (w0 := w1) (w2 := w5) (br := w.heap.size) (p := p5) (x := (x4 : Int) - 1) (g := g) (cap := cap) (w3 := w6) (blk := .cells #[.int .i64 ((x4 : Int) - 1), .int .i64 s, .int .i64 v, .slice a5 (flen k) c5] 71) (s := s) (v := v) (k := k) (a2 := a5) (c2 := c5) hown hall)
    have HA5 := Lib.hid ha5
    have HL5 := Lib.hid hl5
    have HA05 := Lib.hid (HA4.out.trans ha5)
    clear hown hall ha5 hl5 HO4
    go_wp2_with (at_builtin; refine wpList_append_lies _ rfl _ _ 23 rfl w1.heap.size 71 ti _ 4 48 Try.underlying23 HTI.out.1 HTI.out.2.1 HTI.out.2.2.1 HTI.out.2.2.2 rfl (by omega) (.slice A bs.length C) bs.length xs rfl (HOWN.out.alloc _) ⟨w5.heap.size, 0, none⟩ 1 1 [.int .i64 ((x4 : Int) - 1), .int .i64 s, .int .i64 v, .slice a5 (flen k) c5] rfl rfl (World.news_of_block (heap_alloc_new _ _)) (by simp [Value.oneCell']) (by omega) (by unfold maxLen; omega) (by omega) (by simp; omega) (w5.heap.size + 1) (by simp) ?_; intro g cap w6 hown6 hgrow6 hat6 hg6; have HX6 := Lib.hid (HAP.out g cap w6 hown6 HA5.out hlt1 HL5.out (by omega) hgrow6 hat6 HA05.out (Nat.le_refl _)); clear hown6 hgrow6 hat6 hg6)
    go_ret
    have hl2' : (bs ++ [((x4 : Int) - 1, s, v, k)]).length = bs.length + 1 := by simp
    have hcap := HX6.out.1.cap
    rw [hl2'] at hcap
    have hA : Below w.heap.size w w6 := adv_low HB1.out (Nat.le_refl _) hs1 HX6.out.2
    exact ⟨_, some ⟨g, 0, none⟩, cap, by rw [hl2']; rfl, by omega, by omega, hA, HX6.out.1.bsl.mono (by omega) (Nat.le_refl _)⟩
  · have hze : ((x3 : Int) == 0) = false := by simpa using hz
    go_wp2_with fail
    go_ret
    exact ⟨bs, A, C, rfl, by omega, HO3.out.cap, adv_low HB1.out (Nat.le_refl _) hs1 HA3.out, HO3.out.bsl.mono (by omega) (Nat.le_refl _)⟩
end Go.Proofs.Ytkmfnhoeigoajaa

/-! LawSOk: laws.FnSubstOk answers true at any two codes. -/
namespace Go.Proofs.Ytkmfnhoeigoajaa
open Go.RowKit Go.Deep
attribute [local go_sem ↓] Go.wp_at_zero Go.wp_at_succ

set_option maxRecDepth 100000 in
set_option maxHeartbeats 2000000 in
theorem substOk_walk (a0 : Option Addr) (len cap : Nat) (a1 : Option Addr) (len1 cap1 : Nat) (w : World) (hby : Bytes w a0 len) (hlen : len ≤ cap) (hby1 : Bytes w a1 len1) (hlen1 : len1 ≤ cap1) :
    Calls Try.prog 5 #[.slice a0 len cap, .slice a1 len1 cap1] w fun e w' => e = .returned (.bool true) ∧ Below w.heap.size w w' := by
  have HBY := Lib.hid hby
  clear hby
  have HBY1 := Lib.hid hby1
  clear hby1
  by_cases hbiglen : 1048576 < len
  · go_enter Try.func5, Try.ntmps5
    go_wp2_with fail
    go_ret
    exact ⟨rfl, Below.refl _ _⟩
  by_cases hbiglen1 : 1048576 < len1
  · go_enter Try.func5, Try.ntmps5
    go_wp2_with fail
    go_ret
    exact ⟨rfl, Below.refl _ _⟩
  go_enter Try.func5, Try.ntmps5
  have hlen2 := hlen1
  clear HBY1 hlen1 hlen2
  go_wp2_with fail
  with_reducible refine (DrawSubstOk_any a0 len cap _ HBY.out hlen).mono ?_
  rintro e wa ⟨bs, A, C, rfl, hbl, hcap, hb, hi⟩
  have Hlow := Lib.hid hb
  have HBS : Hid (BSl wa 0 wa.heap.size A bs) := hi.mono (Nat.zero_le _) (Nat.le_refl _)
  clear hb hi HBY
  cases hok : sok 16 bs with
  | false =>
    have HOK := Lib.hid hok
    clear hok
    go_wp2_with fail
    with_reducible refine (iSubstOk_any bs A C _ HBS.out (by omega)).mono ?_
    rw [HOK.out]
    rintro e wx1 ⟨rfl, hb⟩
    have Hlow' : Hid (Below w.heap.size w wx1) := below_next Hlow.out hb
    have HBS' : Hid (BSl wx1 0 wx1.heap.size A bs) := HBS.out.next hb
    clear Hlow HBS
    have Hlow := Hlow'
    clear Hlow'
    have HBS := HBS'
    clear HBS'
    clear hb
    go_wp2_with fail
    with_reducible refine (sSubstOk_any bs A C _ HBS.out (by omega)).mono ?_
    rw [HOK.out]
    rintro e wx2 ⟨rfl, hb⟩
    have Hlow' : Hid (Below w.heap.size w wx2) := below_next Hlow.out hb
    have HBS' : Hid (BSl wx2 0 wx2.heap.size A bs) := HBS.out.next hb
    clear Hlow HBS
    have Hlow := Hlow'
    clear Hlow'
    have HBS := HBS'
    clear HBS'
    clear hb
    go_wp2_with fail
    with_reducible refine (sSubstOk_any bs A C _ HBS.out (by omega)).mono ?_
    rw [HOK.out]
    rintro e wx3 ⟨rfl, hb⟩
    have Hlow' : Hid (Below w.heap.size w wx3) := below_next Hlow.out hb
    have HBS' : Hid (BSl wx3 0 wx3.heap.size A bs) := HBS.out.next hb
    clear Hlow HBS
    have Hlow := Hlow'
    clear Hlow'
    have HBS := HBS'
    clear HBS'
    clear hb
    go_wp2_with fail
    go_ret
    exact ⟨rfl, Hlow.out⟩
  | true =>
    have HOK := Lib.hid hok
    clear hok
    go_wp2_with fail
    with_reducible refine (iSubstOk_any bs A C _ HBS.out (by omega)).mono ?_
    rw [HOK.out]
    rintro e wx1 ⟨rfl, hb⟩
    have Hlow' : Hid (Below w.heap.size w wx1) := below_next Hlow.out hb
    have HBS' : Hid (BSl wx1 0 wx1.heap.size A bs) := HBS.out.next hb
    clear Hlow HBS
    have Hlow := Hlow'
    clear Hlow'
    have HBS := HBS'
    clear HBS'
    clear hb
    go_wp2_with fail
    with_reducible refine (sSubstOk_any bs A C _ HBS.out (by omega)).mono ?_
    rw [HOK.out]
    rintro e wx2 ⟨rfl, hb⟩
    have Hlow' : Hid (Below w.heap.size w wx2) := below_next Hlow.out hb
    have HBS' : Hid (BSl wx2 0 wx2.heap.size A bs) := HBS.out.next hb
    clear Hlow HBS
    have Hlow := Hlow'
    clear Hlow'
    have HBS := HBS'
    clear HBS'
    clear hb
    obtain ⟨m, hm, hmE⟩ : ∃ m : Nat, m ≤ bs.length ∧ (len1 : Int) % ((bs.length : Int) + 1) = (m : Int) := ⟨len1 % (bs.length + 1), by have := Nat.mod_lt len1 (show 0 < bs.length + 1 by omega); omega, by push_cast; rfl⟩
    have hte : (len1 : Int).tmod ((bs.length : Int) + 1) = (m : Int) := by rw [Int.tmod_eq_emod_of_nonneg (by omega)]; exact hmE
    have hne : ((bs.length : Int) + 1 == 0) = false := by simp; omega
    have hcut := cutB_to (A := A) hm hcap
    have HTK : Hid (sok 16 (bs.take m) = true) := sokFrom_take bs (-1) m HOK.out
    have hlt : (bs.take m).length = m := by rw [List.length_take]; omega
    have HCC := Lib.hid (iSubstOk_any (bs.take m) A C _ (HBS.out.take m) (by omega))
    rw [hlt, HTK.out] at HCC
    clear hlt hmE
    go_wp2_with fail
    refine HCC.out.mono ?_
    rintro e wx3 ⟨rfl, hb⟩
    clear HCC
    have Hlow' : Hid (Below w.heap.size w wx3) := below_next Hlow.out hb
    have HBS' : Hid (BSl wx3 0 wx3.heap.size A bs) := HBS.out.next hb
    clear Hlow HBS
    have Hlow := Hlow'
    clear Hlow'
    have HBS := HBS'
    clear HBS'
    clear hb
    go_wp2_with fail
    go_ret
    exact ⟨rfl, Hlow.out⟩
end Go.Proofs.Ytkmfnhoeigoajaa
