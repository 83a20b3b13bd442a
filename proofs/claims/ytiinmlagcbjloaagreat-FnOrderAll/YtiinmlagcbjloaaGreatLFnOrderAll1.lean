/- Several texts in one: LawOAll. -/
import Derived.Test.YtiinmlagcbjloaaGreatKAll23
import Derived.Test.YtiinmlagcbjloaaGreatKAll24
import Derived.Test.YtiinmlagcbjloaaGreatKAll12
import Derived.Test.YtiinmlagcbjloaaGreatKAll22
import Derived.Test.YtiinmlagcbjloaaGreatKAll15
import Derived.Test.YtiinmlagcbjloaaGreatKAll4

/-! LawOAll: laws.FnOrderAll answers true at every code. -/
namespace Go.Proofs.YtiinmlagcbjloaaGreat
open Go.RowKit Go.Deep
attribute [local go_sem ↓] Go.wp_at_zero Go.wp_at_succ

def gb : List Bd := [(0, 1, 0, .nil), (1, 2, 0, .nil), (2, 1, 0, .nil)]
theorem ground_bsl {w : World} : BSl (w.alloc (.cells #[.int .i64 0, .int .i64 1, .int .i64 0, .slice none 0 0, .int .i64 1, .int .i64 2, .int .i64 0, .slice none 0 0, .int .i64 2, .int .i64 1, .int .i64 0, .slice none 0 0] 31)) 0 (w.alloc (.cells #[.int .i64 0, .int .i64 1, .int .i64 0, .slice none 0 0, .int .i64 1, .int .i64 2, .int .i64 0, .slice none 0 0, .int .i64 2, .int .i64 1, .int .i64 0, .slice none 0 0] 31)).heap.size (some ⟨w.heap.size, 0, none⟩) gb := by
  refine .inr ⟨w.heap.size, 0, rfl, Nat.zero_le _, by simp, fun i x hx => ⟨none, 0, ?_⟩⟩
  have h3 : i < 3 := by have := (List.getElem?_eq_some_iff.1 hx).1; simpa [gb] using this
  rcases (by omega : i = 0 ∨ i = 1 ∨ i = 2) with rfl | rfl | rfl
  all_goals
    simp only [gb, List.getElem?_cons_zero, List.getElem?_cons_succ, Option.some.injEq] at hx
    subst hx
    refine ⟨?_, ?_, ?_, ?_, .inl rfl⟩ <;> (rw [World.cell?_alloc_at _ _ _ _ rfl]; rfl)
theorem gSubstDo_any (bs : List Bd) (A : Option Addr) (C : Nat) (s v : Int) (a : Option Addr) (c : Nat) (k : Fo) (w : World) (hb : BSl w 0 w.heap.size A bs) (hlen : bs.length = 3) (hl : Sl w 0 w.heap.size a k) :
    Calls Tryz.prog 6 #[.slice A 3 C, .agg #[.int .i64 s, .int .i64 v, .slice a (flen k) c]] w (SdPost bs s v k w) := by
  have h := iSubstDo_any bs A C s v a c k w hb (by omega) hl
  rw [hlen] at h
  exact h

set_option maxRecDepth 100000 in
set_option maxHeartbeats 4000000 in
theorem orderAll_walk (a0 : Option Addr) (len cap : Nat) (w : World) (hby : Bytes w a0 len) (hlen : len ≤ cap) :
    Calls Tryz.prog 3 #[.slice a0 len cap] w fun e w' => e = .returned (.bool true) ∧ Below w.heap.size w w' := by
  have HBY := Lib.hid hby
  clear hby
  by_cases hbiglen : 1048576 < len
  · go_enter Tryz.func3, Tryz.ntmps3
    go_wp2_with fail
    go_ret
    exact ⟨rfl, Below.refl _ _⟩
  go_enter Tryz.func3, Tryz.ntmps3
  go_wp2_with fail
  with_reducible refine (DrawOrderMore_any a0 len cap _ HBY.out hlen).mono ?_
  rintro e wa ⟨xs, A, C, s, v, a, c, k, s2, v2, a2, c2, k2, rfl, hx4, hS, hS2, hb, hi, hl, hl2⟩
  have Hlow := Lib.hid hb
  have Hr : Hid (ISl wa 0 wa.heap.size A xs) := hi.1.mono (Nat.zero_le _) (Nat.le_refl _)
  have HL : Hid (Sl wa 0 wa.heap.size a k) := hl.mono (Nat.zero_le _) (Nat.le_refl _)
  have Hm : Hid (Sl wa 0 wa.heap.size a2 k2) := hl2.mono (Nat.zero_le _) (Nat.le_refl _)
  have HR4 := Lib.hid hx4
  clear hb hi hl hl2 HBY hx4
  have hbx : Below wa.heap.size wa (wa.alloc (.cells #[.int .i64 s, .int .i64 v, .slice a (flen k) c] 26)) := box_low _ _
  have Hn : Hid (Tb wa.heap.size s v a c k (wa.alloc (.cells #[.int .i64 s, .int .i64 v, .slice a (flen k) c] 26))) := Tb.new HL.out
  have Hlow' : Hid (Below w.heap.size w (wa.alloc (.cells #[.int .i64 s, .int .i64 v, .slice a (flen k) c] 26))) := below_next Hlow.out hbx
  have Hr' : Hid (ISl (wa.alloc (.cells #[.int .i64 s, .int .i64 v, .slice a (flen k) c] 26)) 0 (wa.alloc (.cells #[.int .i64 s, .int .i64 v, .slice a (flen k) c] 26)).heap.size A xs) := Hr.out.next hbx
  have Hm' : Hid (Sl (wa.alloc (.cells #[.int .i64 s, .int .i64 v, .slice a (flen k) c] 26)) 0 (wa.alloc (.cells #[.int .i64 s, .int .i64 v, .slice a (flen k) c] 26)).heap.size a2 k2) := Hm.out.next hbx
  clear Hlow Hr Hm
  have Hlow := Hlow'
  clear Hlow'
  have Hr := Hr'
  clear Hr'
  have Hm := Hm'
  clear Hm'
  have Hp := Hn
  clear Hn hbx
  clear HL
  have hbx : Below (wa.alloc (.cells #[.int .i64 s, .int .i64 v, .slice a (flen k) c] 26)).heap.size (wa.alloc (.cells #[.int .i64 s, .int .i64 v, .slice a (flen k) c] 26)) ((wa.alloc (.cells #[.int .i64 s, .int .i64 v, .slice a (flen k) c] 26)).alloc (.cells #[.int .i64 s2, .int .i64 v2, .slice a2 (flen k2) c2] 26)) := box_low _ _
  have Hn : Hid (Tb (wa.heap.size + 1) s2 v2 a2 c2 k2 ((wa.alloc (.cells #[.int .i64 s, .int .i64 v, .slice a (flen k) c] 26)).alloc (.cells #[.int .i64 s2, .int .i64 v2, .slice a2 (flen k2) c2] 26))) := (show (wa.alloc (.cells #[.int .i64 s, .int .i64 v, .slice a (flen k) c] 26)).heap.size = (wa.heap.size + 1) from by simp) ▸ Tb.new Hm.out
  have Hlow' : Hid (Below w.heap.size w ((wa.alloc (.cells #[.int .i64 s, .int .i64 v, .slice a (flen k) c] 26)).alloc (.cells #[.int .i64 s2, .int .i64 v2, .slice a2 (flen k2) c2] 26))) := below_next Hlow.out hbx
  have Hr' : Hid (ISl ((wa.alloc (.cells #[.int .i64 s, .int .i64 v, .slice a (flen k) c] 26)).alloc (.cells #[.int .i64 s2, .int .i64 v2, .slice a2 (flen k2) c2] 26)) 0 ((wa.alloc (.cells #[.int .i64 s, .int .i64 v, .slice a (flen k) c] 26)).alloc (.cells #[.int .i64 s2, .int .i64 v2, .slice a2 (flen k2) c2] 26)).heap.size A xs) := Hr.out.next hbx
  have Hm' : Hid (Sl ((wa.alloc (.cells #[.int .i64 s, .int .i64 v, .slice a (flen k) c] 26)).alloc (.cells #[.int .i64 s2, .int .i64 v2, .slice a2 (flen k2) c2] 26)) 0 ((wa.alloc (.cells #[.int .i64 s, .int .i64 v, .slice a (flen k) c] 26)).alloc (.cells #[.int .i64 s2, .int .i64 v2, .slice a2 (flen k2) c2] 26)).heap.size a2 k2) := Hm.out.next hbx
  have Hp' : Hid (Tb wa.heap.size s v a c k ((wa.alloc (.cells #[.int .i64 s, .int .i64 v, .slice a (flen k) c] 26)).alloc (.cells #[.int .i64 s2, .int .i64 v2, .slice a2 (flen k2) c2] 26))) := Hp.out.next hbx
  clear Hlow Hr Hm Hp
  have Hlow := Hlow'
  clear Hlow'
  have Hr := Hr'
  clear Hr'
  have Hm := Hm'
  clear Hm'
  have Hp := Hp'
  clear Hp'
  have Ht := Hn
  clear Hn hbx
  clear Hm
  obtain ⟨mm, hmm⟩ : ∃ mm, moreR xs s v k s2 v2 k2 = mm := ⟨_, rfl⟩
  have HM := Lib.hid hmm
  clear hmm
  have eb : (mm != mm) = false := by simp
  have eb2 : (mm == mm) = true := by simp
  have qp0 := Hp.out.c0
  have qp1 := Hp.out.c1
  have qp2 := Hp.out.c2
  have qt0 := Ht.out.c0
  have qt1 := Ht.out.c1
  have qt2 := Ht.out.c2
  go_wp2_with fail
  with_reducible refine (iOrderMore_any xs A C s v a c k s2 v2 a2 c2 k2 _ Hr.out Hp.out.sl Ht.out.sl).mono ?_
  rw [HM.out]
  rintro e wx1 ⟨rfl, hb⟩
  clear qp0 qp1 qp2 qt0 qt1 qt2
  have Hlow' : Hid (Below w.heap.size w wx1) := below_next Hlow.out hb
  have Hr' : Hid (ISl wx1 0 wx1.heap.size A xs) := Hr.out.next hb
  have Hp' : Hid (Tb wa.heap.size s v a c k wx1) := Hp.out.next hb
  have Ht' : Hid (Tb (wa.heap.size + 1) s2 v2 a2 c2 k2 wx1) := Ht.out.next hb
  clear Hlow Hr Hp Ht
  have Hlow := Hlow'
  clear Hlow'
  have Hr := Hr'
  clear Hr'
  have Hp := Hp'
  clear Hp'
  have Ht := Ht'
  clear Ht'
  clear hb
  have hbg : Below wx1.heap.size wx1 (wx1.alloc (.cells #[.int .i64 0, .int .i64 1, .int .i64 0, .slice none 0 0, .int .i64 1, .int .i64 2, .int .i64 0, .slice none 0 0, .int .i64 2, .int .i64 1, .int .i64 0, .slice none 0 0] 31)) := (Below.refl _ _).alloc (Nat.le_refl _) _
  have Hlow' : Hid (Below w.heap.size w (wx1.alloc (.cells #[.int .i64 0, .int .i64 1, .int .i64 0, .slice none 0 0, .int .i64 1, .int .i64 2, .int .i64 0, .slice none 0 0, .int .i64 2, .int .i64 1, .int .i64 0, .slice none 0 0] 31))) := below_next Hlow.out hbg
  have Hr' : Hid (ISl (wx1.alloc (.cells #[.int .i64 0, .int .i64 1, .int .i64 0, .slice none 0 0, .int .i64 1, .int .i64 2, .int .i64 0, .slice none 0 0, .int .i64 2, .int .i64 1, .int .i64 0, .slice none 0 0] 31)) 0 (wx1.alloc (.cells #[.int .i64 0, .int .i64 1, .int .i64 0, .slice none 0 0, .int .i64 1, .int .i64 2, .int .i64 0, .slice none 0 0, .int .i64 2, .int .i64 1, .int .i64 0, .slice none 0 0] 31)).heap.size A xs) := Hr.out.next hbg
  have Hp' : Hid (Tb wa.heap.size s v a c k (wx1.alloc (.cells #[.int .i64 0, .int .i64 1, .int .i64 0, .slice none 0 0, .int .i64 1, .int .i64 2, .int .i64 0, .slice none 0 0, .int .i64 2, .int .i64 1, .int .i64 0, .slice none 0 0] 31))) := Hp.out.next hbg
  have Ht' : Hid (Tb (wa.heap.size + 1) s2 v2 a2 c2 k2 (wx1.alloc (.cells #[.int .i64 0, .int .i64 1, .int .i64 0, .slice none 0 0, .int .i64 1, .int .i64 2, .int .i64 0, .slice none 0 0, .int .i64 2, .int .i64 1, .int .i64 0, .slice none 0 0] 31))) := Ht.out.next hbg
  clear Hlow Hr Hp Ht
  have Hlow := Hlow'
  clear Hlow'
  have Hr := Hr'
  clear Hr'
  have Hp := Hp'
  clear Hp'
  have Ht := Ht'
  clear Ht'
  have Hg : Hid (BSl (wx1.alloc (.cells #[.int .i64 0, .int .i64 1, .int .i64 0, .slice none 0 0, .int .i64 1, .int .i64 2, .int .i64 0, .slice none 0 0, .int .i64 2, .int .i64 1, .int .i64 0, .slice none 0 0] 31)) 0 (wx1.alloc (.cells #[.int .i64 0, .int .i64 1, .int .i64 0, .slice none 0 0, .int .i64 1, .int .i64 2, .int .i64 0, .slice none 0 0, .int .i64 2, .int .i64 1, .int .i64 0, .slice none 0 0] 31)).heap.size (some ⟨wx1.heap.size, 0, none⟩) gb) := ground_bsl
  clear hbg
  have qp0 := Hp.out.c0
  have qp1 := Hp.out.c1
  have qp2 := Hp.out.c2
  go_wp2_with fail
  with_reducible refine (gSubstDo_any gb (some ⟨wx1.heap.size, 0, none⟩) 3 s v a c k _ Hg.out rfl Hp.out.sl).mono ?_
  rintro e wx2 ⟨ax, cx, sx, vx, kx, tx, hdx, rfl, hb, hlx⟩
  have HDx := Lib.hid hdx
  clear hdx
  clear qp0 qp1 qp2
  have Hlow' : Hid (Below w.heap.size w wx2) := below_next Hlow.out hb
  have Hr' : Hid (ISl wx2 0 wx2.heap.size A xs) := Hr.out.next hb
  have Hp' : Hid (Tb wa.heap.size s v a c k wx2) := Hp.out.next hb
  have Ht' : Hid (Tb (wa.heap.size + 1) s2 v2 a2 c2 k2 wx2) := Ht.out.next hb
  have Hg' : Hid (BSl wx2 0 wx2.heap.size (some ⟨wx1.heap.size, 0, none⟩) gb) := Hg.out.next hb
  clear Hlow Hr Hp Ht Hg
  have Hlow := Hlow'
  clear Hlow'
  have Hr := Hr'
  clear Hr'
  have Hp := Hp'
  clear Hp'
  have Ht := Ht'
  clear Ht'
  have Hg := Hg'
  clear Hg'
  clear hb
  have Hlx := Lib.hid hlx
  clear hlx
  have hbx : Below wx2.heap.size wx2 (wx2.alloc (.cells #[.int .i64 sx, .int .i64 vx, .slice ax (flen kx) cx] 26)) := box_low _ _
  have Hn : Hid (Tb wx2.heap.size sx vx ax cx kx (wx2.alloc (.cells #[.int .i64 sx, .int .i64 vx, .slice ax (flen kx) cx] 26))) := Tb.new Hlx.out
  have Hlow' : Hid (Below w.heap.size w (wx2.alloc (.cells #[.int .i64 sx, .int .i64 vx, .slice ax (flen kx) cx] 26))) := below_next Hlow.out hbx
  have Hr' : Hid (ISl (wx2.alloc (.cells #[.int .i64 sx, .int .i64 vx, .slice ax (flen kx) cx] 26)) 0 (wx2.alloc (.cells #[.int .i64 sx, .int .i64 vx, .slice ax (flen kx) cx] 26)).heap.size A xs) := Hr.out.next hbx
  have Hp' : Hid (Tb wa.heap.size s v a c k (wx2.alloc (.cells #[.int .i64 sx, .int .i64 vx, .slice ax (flen kx) cx] 26))) := Hp.out.next hbx
  have Ht' : Hid (Tb (wa.heap.size + 1) s2 v2 a2 c2 k2 (wx2.alloc (.cells #[.int .i64 sx, .int .i64 vx, .slice ax (flen kx) cx] 26))) := Ht.out.next hbx
  have Hg' : Hid (BSl (wx2.alloc (.cells #[.int .i64 sx, .int .i64 vx, .slice ax (flen kx) cx] 26)) 0 (wx2.alloc (.cells #[.int .i64 sx, .int .i64 vx, .slice ax (flen kx) cx] 26)).heap.size (some ⟨wx1.heap.size, 0, none⟩) gb) := Hg.out.next hbx
  clear Hlow Hr Hp Ht Hg
  have Hlow := Hlow'
  clear Hlow'
  have Hr := Hr'
  clear Hr'
  have Hp := Hp'
  clear Hp'
  have Ht := Ht'
  clear Ht'
  have Hg := Hg'
  clear Hg'
  have Hx := Hn
  clear Hn hbx
  clear Hlx
  have qt0 := Ht.out.c0
  have qt1 := Ht.out.c1
  have qt2 := Ht.out.c2
  go_wp2_with fail
  with_reducible refine (gSubstDo_any gb (some ⟨wx1.heap.size, 0, none⟩) 3 s2 v2 a2 c2 k2 _ Hg.out rfl Ht.out.sl).mono ?_
  rintro e wx3 ⟨ay, cy, sy, vy, ky, ty, hdy, rfl, hb, hly⟩
  have HDy := Lib.hid hdy
  clear hdy
  clear qt0 qt1 qt2
  have Hlow' : Hid (Below w.heap.size w wx3) := below_next Hlow.out hb
  have Hr' : Hid (ISl wx3 0 wx3.heap.size A xs) := Hr.out.next hb
  have Hp' : Hid (Tb wa.heap.size s v a c k wx3) := Hp.out.next hb
  have Ht' : Hid (Tb (wa.heap.size + 1) s2 v2 a2 c2 k2 wx3) := Ht.out.next hb
  have Hg' : Hid (BSl wx3 0 wx3.heap.size (some ⟨wx1.heap.size, 0, none⟩) gb) := Hg.out.next hb
  have Hx' : Hid (Tb wx2.heap.size sx vx ax cx kx wx3) := Hx.out.next hb
  clear Hlow Hr Hp Ht Hg Hx
  have Hlow := Hlow'
  clear Hlow'
  have Hr := Hr'
  clear Hr'
  have Hp := Hp'
  clear Hp'
  have Ht := Ht'
  clear Ht'
  have Hg := Hg'
  clear Hg'
  have Hx := Hx'
  clear Hx'
  clear hb
  have Hly := Lib.hid hly
  clear hly
  have hbx : Below wx3.heap.size wx3 (wx3.alloc (.cells #[.int .i64 sy, .int .i64 vy, .slice ay (flen ky) cy] 26)) := box_low _ _
  have Hn : Hid (Tb wx3.heap.size sy vy ay cy ky (wx3.alloc (.cells #[.int .i64 sy, .int .i64 vy, .slice ay (flen ky) cy] 26))) := Tb.new Hly.out
  have Hlow' : Hid (Below w.heap.size w (wx3.alloc (.cells #[.int .i64 sy, .int .i64 vy, .slice ay (flen ky) cy] 26))) := below_next Hlow.out hbx
  have Hr' : Hid (ISl (wx3.alloc (.cells #[.int .i64 sy, .int .i64 vy, .slice ay (flen ky) cy] 26)) 0 (wx3.alloc (.cells #[.int .i64 sy, .int .i64 vy, .slice ay (flen ky) cy] 26)).heap.size A xs) := Hr.out.next hbx
  have Hp' : Hid (Tb wa.heap.size s v a c k (wx3.alloc (.cells #[.int .i64 sy, .int .i64 vy, .slice ay (flen ky) cy] 26))) := Hp.out.next hbx
  have Ht' : Hid (Tb (wa.heap.size + 1) s2 v2 a2 c2 k2 (wx3.alloc (.cells #[.int .i64 sy, .int .i64 vy, .slice ay (flen ky) cy] 26))) := Ht.out.next hbx
  have Hg' : Hid (BSl (wx3.alloc (.cells #[.int .i64 sy, .int .i64 vy, .slice ay (flen ky) cy] 26)) 0 (wx3.alloc (.cells #[.int .i64 sy, .int .i64 vy, .slice ay (flen ky) cy] 26)).heap.size (some ⟨wx1.heap.size, 0, none⟩) gb) := Hg.out.next hbx
  have Hx' : Hid (Tb wx2.heap.size sx vx ax cx kx (wx3.alloc (.cells #[.int .i64 sy, .int .i64 vy, .slice ay (flen ky) cy] 26))) := Hx.out.next hbx
  clear Hlow Hr Hp Ht Hg Hx
  have Hlow := Hlow'
  clear Hlow'
  have Hr := Hr'
  clear Hr'
  have Hp := Hp'
  clear Hp'
  have Ht := Ht'
  clear Ht'
  have Hg := Hg'
  clear Hg'
  have Hx := Hx'
  clear Hx'
  have Hy := Hn
  clear Hn hbx
  clear Hly
  have qp0 := Hp.out.c0
  have qp1 := Hp.out.c1
  have qp2 := Hp.out.c2
  have qt0 := Ht.out.c0
  have qt1 := Ht.out.c1
  have qt2 := Ht.out.c2
  go_wp2_with fail
  with_reducible refine (sOrderMore_any xs A C s v a c k s2 v2 a2 c2 k2 _ Hr.out Hp.out.sl Ht.out.sl).mono ?_
  rw [HM.out]
  rintro e wx4 ⟨rfl, hb⟩
  clear qp0 qp1 qp2 qt0 qt1 qt2
  have Hlow' : Hid (Below w.heap.size w wx4) := below_next Hlow.out hb
  have Hr' : Hid (ISl wx4 0 wx4.heap.size A xs) := Hr.out.next hb
  have Hp' : Hid (Tb wa.heap.size s v a c k wx4) := Hp.out.next hb
  have Ht' : Hid (Tb (wa.heap.size + 1) s2 v2 a2 c2 k2 wx4) := Ht.out.next hb
  have Hg' : Hid (BSl wx4 0 wx4.heap.size (some ⟨wx1.heap.size, 0, none⟩) gb) := Hg.out.next hb
  have Hx' : Hid (Tb wx2.heap.size sx vx ax cx kx wx4) := Hx.out.next hb
  have Hy' : Hid (Tb wx3.heap.size sy vy ay cy ky wx4) := Hy.out.next hb
  clear Hlow Hr Hp Ht Hg Hx Hy
  have Hlow := Hlow'
  clear Hlow'
  have Hr := Hr'
  clear Hr'
  have Hp := Hp'
  clear Hp'
  have Ht := Ht'
  clear Ht'
  have Hg := Hg'
  clear Hg'
  have Hx := Hx'
  clear Hx'
  have Hy := Hy'
  clear Hy'
  clear hb
  go_wp2_with fail
  with_reducible refine (sOrderOk_any xs A C _ Hr.out).mono ?_
  rintro e wx5 ⟨rfl, hb⟩
  have Hlow' : Hid (Below w.heap.size w wx5) := below_next Hlow.out hb
  have Hr' : Hid (ISl wx5 0 wx5.heap.size A xs) := Hr.out.next hb
  have Hp' : Hid (Tb wa.heap.size s v a c k wx5) := Hp.out.next hb
  have Ht' : Hid (Tb (wa.heap.size + 1) s2 v2 a2 c2 k2 wx5) := Ht.out.next hb
  have Hg' : Hid (BSl wx5 0 wx5.heap.size (some ⟨wx1.heap.size, 0, none⟩) gb) := Hg.out.next hb
  have Hx' : Hid (Tb wx2.heap.size sx vx ax cx kx wx5) := Hx.out.next hb
  have Hy' : Hid (Tb wx3.heap.size sy vy ay cy ky wx5) := Hy.out.next hb
  clear Hlow Hr Hp Ht Hg Hx Hy
  have Hlow := Hlow'
  clear Hlow'
  have Hr := Hr'
  clear Hr'
  have Hp := Hp'
  clear Hp'
  have Ht := Ht'
  clear Ht'
  have Hg := Hg'
  clear Hg'
  have Hx := Hx'
  clear Hx'
  have Hy := Hy'
  clear Hy'
  clear hb
  cases hrk : rkOk xs with
  | false =>
    clear hrk
    have qp0 := Hp.out.c0
    have qp1 := Hp.out.c1
    have qp2 := Hp.out.c2
    have qt0 := Ht.out.c0
    have qt1 := Ht.out.c1
    have qt2 := Ht.out.c2
    go_wp2_with fail
    with_reducible refine (sOrderMore_any xs A C s v a c k s2 v2 a2 c2 k2 _ Hr.out Hp.out.sl Ht.out.sl).mono ?_
    rw [HM.out]
    rintro e wx6 ⟨rfl, hb⟩
    clear qp0 qp1 qp2 qt0 qt1 qt2
    have Hlow' : Hid (Below w.heap.size w wx6) := below_next Hlow.out hb
    have Hr' : Hid (ISl wx6 0 wx6.heap.size A xs) := Hr.out.next hb
    have Hp' : Hid (Tb wa.heap.size s v a c k wx6) := Hp.out.next hb
    have Ht' : Hid (Tb (wa.heap.size + 1) s2 v2 a2 c2 k2 wx6) := Ht.out.next hb
    have Hg' : Hid (BSl wx6 0 wx6.heap.size (some ⟨wx1.heap.size, 0, none⟩) gb) := Hg.out.next hb
    have Hx' : Hid (Tb wx2.heap.size sx vx ax cx kx wx6) := Hx.out.next hb
    have Hy' : Hid (Tb wx3.heap.size sy vy ay cy ky wx6) := Hy.out.next hb
    clear Hlow Hr Hp Ht Hg Hx Hy
    have Hlow := Hlow'
    clear Hlow'
    have Hr := Hr'
    clear Hr'
    have Hp := Hp'
    clear Hp'
    have Ht := Ht'
    clear Ht'
    have Hg := Hg'
    clear Hg'
    have Hx := Hx'
    clear Hx'
    have Hy := Hy'
    clear Hy'
    clear hb
    go_wp2_with fail
    go_ret
    exact ⟨rfl, Hlow.out⟩
  | true =>
    have HRK := Lib.hid hrk
    clear hrk
    cases tx with
    | false =>
      have qp0 := Hp.out.c0
      have qp1 := Hp.out.c1
      have qp2 := Hp.out.c2
      have qt0 := Ht.out.c0
      have qt1 := Ht.out.c1
      have qt2 := Ht.out.c2
      go_wp2_with fail
      with_reducible refine (sOrderMore_any xs A C s v a c k s2 v2 a2 c2 k2 _ Hr.out Hp.out.sl Ht.out.sl).mono ?_
      rw [HM.out]
      rintro e wx6 ⟨rfl, hb⟩
      clear qp0 qp1 qp2 qt0 qt1 qt2
      have Hlow' : Hid (Below w.heap.size w wx6) := below_next Hlow.out hb
      have Hr' : Hid (ISl wx6 0 wx6.heap.size A xs) := Hr.out.next hb
      have Hp' : Hid (Tb wa.heap.size s v a c k wx6) := Hp.out.next hb
      have Ht' : Hid (Tb (wa.heap.size + 1) s2 v2 a2 c2 k2 wx6) := Ht.out.next hb
      have Hg' : Hid (BSl wx6 0 wx6.heap.size (some ⟨wx1.heap.size, 0, none⟩) gb) := Hg.out.next hb
      have Hx' : Hid (Tb wx2.heap.size sx vx ax cx kx wx6) := Hx.out.next hb
      have Hy' : Hid (Tb wx3.heap.size sy vy ay cy ky wx6) := Hy.out.next hb
      clear Hlow Hr Hp Ht Hg Hx Hy
      have Hlow := Hlow'
      clear Hlow'
      have Hr := Hr'
      clear Hr'
      have Hp := Hp'
      clear Hp'
      have Ht := Ht'
      clear Ht'
      have Hg := Hg'
      clear Hg'
      have Hx := Hx'
      clear Hx'
      have Hy := Hy'
      clear Hy'
      clear hb
      go_wp2_with fail
      go_ret
      exact ⟨rfl, Hlow.out⟩
    | true =>
      cases ty with
      | false =>
        have qp0 := Hp.out.c0
        have qp1 := Hp.out.c1
        have qp2 := Hp.out.c2
        have qt0 := Ht.out.c0
        have qt1 := Ht.out.c1
        have qt2 := Ht.out.c2
        go_wp2_with fail
        with_reducible refine (sOrderMore_any xs A C s v a c k s2 v2 a2 c2 k2 _ Hr.out Hp.out.sl Ht.out.sl).mono ?_
        rw [HM.out]
        rintro e wx6 ⟨rfl, hb⟩
        clear qp0 qp1 qp2 qt0 qt1 qt2
        have Hlow' : Hid (Below w.heap.size w wx6) := below_next Hlow.out hb
        have Hr' : Hid (ISl wx6 0 wx6.heap.size A xs) := Hr.out.next hb
        have Hp' : Hid (Tb wa.heap.size s v a c k wx6) := Hp.out.next hb
        have Ht' : Hid (Tb (wa.heap.size + 1) s2 v2 a2 c2 k2 wx6) := Ht.out.next hb
        have Hg' : Hid (BSl wx6 0 wx6.heap.size (some ⟨wx1.heap.size, 0, none⟩) gb) := Hg.out.next hb
        have Hx' : Hid (Tb wx2.heap.size sx vx ax cx kx wx6) := Hx.out.next hb
        have Hy' : Hid (Tb wx3.heap.size sy vy ay cy ky wx6) := Hy.out.next hb
        clear Hlow Hr Hp Ht Hg Hx Hy
        have Hlow := Hlow'
        clear Hlow'
        have Hr := Hr'
        clear Hr'
        have Hp := Hp'
        clear Hp'
        have Ht := Ht'
        clear Ht'
        have Hg := Hg'
        clear Hg'
        have Hx := Hx'
        clear Hx'
        have Hy := Hy'
        clear Hy'
        clear hb
        go_wp2_with fail
        go_ret
        exact ⟨rfl, Hlow.out⟩
      | true =>
        have HOX := Lib.hid (sdR_ok HDx.out).1
        have HOY := Lib.hid (sdR_ok HDy.out).1
        clear HM eb eb2
        have qx0 := Hx.out.c0
        have qx1 := Hx.out.c1
        have qx2 := Hx.out.c2
        have qy0 := Hy.out.c0
        have qy1 := Hy.out.c1
        have qy2 := Hy.out.c2
        have hu0 : ∀ u : After wx5.heap.size wx5, u.world.cell? ⟨wx2.heap.size, 0, none⟩ = some (.int .i64 sx) := fun u => cell_low u.below Hx.out.c0
        have hu1 : ∀ u : After wx5.heap.size wx5, u.world.cell? ⟨wx2.heap.size, 1, none⟩ = some (.int .i64 vx) := fun u => cell_low u.below Hx.out.c1
        have hu2 : ∀ u : After wx5.heap.size wx5, u.world.cell? ⟨wx2.heap.size, 2, none⟩ = some (.slice ax (flen kx) cx) := fun u => cell_low u.below Hx.out.c2
        have hu3 : ∀ u : After wx5.heap.size wx5, u.world.cell? ⟨wx3.heap.size, 0, none⟩ = some (.int .i64 sy) := fun u => cell_low u.below Hy.out.c0
        have hu4 : ∀ u : After wx5.heap.size wx5, u.world.cell? ⟨wx3.heap.size, 1, none⟩ = some (.int .i64 vy) := fun u => cell_low u.below Hy.out.c1
        have hu5 : ∀ u : After wx5.heap.size wx5, u.world.cell? ⟨wx3.heap.size, 2, none⟩ = some (.slice ay (flen ky) cy) := fun u => cell_low u.below Hy.out.c2
        go_wp2_with fail
        clear qx0 qx1 qx2 qy0 qy1 qy2
        refine wp_region_mix (fun w' => ∃ u : After wx5.heap.size wx5, w' = u.world) [] [(0, 0), (3, 0), (1, 1), (2, 0), (4, 1), (5, 0), (6, 0), (7, 1)] (by kernel_rfl) (by kernel_rfl) ⟨⟨_, (Below.refl _ _).drew⟩, rfl⟩ ?_
        have HBD : Hid (Below wx5.heap.size wx5 wx5.drew) := (Below.refl _ _).drew
        generalize wx5.drew = wd5 at *
        iterate 2
          refine mix_see rfl (fun K hK => ?_)
          go_simp
          refine hK _ ?_
          clear hK K
        clear hu0 hu1 hu2 hu3 hu4 hu5
        refine mix_hold rfl (fun K hK => ?_)
        go_simp
        with_reducible refine (iTermVars_any sx vx ax cx kx _ (Hx.out.sl.next HBD.out)).mono ?_
        rintro e wpx6 ⟨A3, C3, x3, hx3, rfl, hb, _⟩
        have HX3 := Lib.hid hx3
        have hl3 : x3.length ≤ 12 := by rw [hx3]; exact tvR_len _ _ _
        clear hx3
        replace HBD := Lib.hid (below_next HBD.out hb)
        refine hK _ _ ⟨⟨_, HBD.out⟩, rfl⟩ ?_
        clear hK K hb
        iterate 1
          refine mix_see rfl (fun K hK => ?_)
          go_simp
          refine hK _ ?_
          clear hK K
        refine mix_hold rfl (fun K hK => ?_)
        go_simp
        with_reducible refine (iTermVars_any sy vy ay cy ky _ (Hy.out.sl.next HBD.out)).mono ?_
        rintro e wpx7 ⟨A4, C4, x4, hx4b, rfl, hb, _⟩
        have HX4 := Lib.hid hx4b
        have hl4 : x4.length ≤ 12 := by rw [hx4b]; exact tvR_len _ _ _
        clear hx4b
        replace HBD := Lib.hid (below_next HBD.out hb)
        refine hK _ _ ⟨⟨_, HBD.out⟩, rfl⟩ ?_
        clear hK K hb
        iterate 2
          refine mix_see rfl (fun K hK => ?_)
          go_simp
          refine hK _ ?_
          clear hK K
        iterate 1
          refine mix_hold rfl (fun K hK => ?_)
          go_simp
          refine hK _ _ ⟨⟨_, HBD.out⟩, rfl⟩ ?_
          clear hK K
        refine mix_end ?_
        have Hlow' : Hid (Below w.heap.size w wpx7) := below_next Hlow.out HBD.out
        have Hr' : Hid (ISl wpx7 0 wpx7.heap.size A xs) := Hr.out.next HBD.out
        have Hp' : Hid (Tb wa.heap.size s v a c k wpx7) := Hp.out.next HBD.out
        have Ht' : Hid (Tb (wa.heap.size + 1) s2 v2 a2 c2 k2 wpx7) := Ht.out.next HBD.out
        have Hg' : Hid (BSl wpx7 0 wpx7.heap.size (some ⟨wx1.heap.size, 0, none⟩) gb) := Hg.out.next HBD.out
        have Hx' : Hid (Tb wx2.heap.size sx vx ax cx kx wpx7) := Hx.out.next HBD.out
        have Hy' : Hid (Tb wx3.heap.size sy vy ay cy ky wpx7) := Hy.out.next HBD.out
        clear Hlow Hr Hp Ht Hg Hx Hy
        have Hlow := Hlow'
        clear Hlow'
        have Hr := Hr'
        clear Hr'
        have Hp := Hp'
        clear Hp'
        have Ht := Ht'
        clear Ht'
        have Hg := Hg'
        clear Hg'
        have Hx := Hx'
        clear Hx'
        have Hy := Hy'
        clear Hy'
        clear HBD
        by_cases hz : x3.length + x4.length = 0
        · have z3 : x3 = [] := List.length_eq_zero_iff.1 (by omega)
          have z4 : x4 = [] := List.length_eq_zero_iff.1 (by omega)
          subst z3
          subst z4
          have HALL := Lib.hid (more_all HRK.out HOX.out HOY.out HX3.out.symm HX4.out.symm)
          have hxz := sdR_sz HDx.out
          clear hz hl3 hl4
          cases hm1 : moreR xs sx vx kx sy vy ky with
          | true =>
            have HM1 := Lib.hid hm1
            clear hm1
            have HALL2 := HALL.out
            rw [HM1.out] at HALL2
            simp at HALL2
            have HE := Lib.hid HALL2
            clear HALL2 HALL
            have hu0 : ∀ u : After wpx7.heap.size wpx7, u.world.cell? ⟨wx2.heap.size, 0, none⟩ = some (.int .i64 sx) := fun u => cell_low u.below Hx.out.c0
            have hu1 : ∀ u : After wpx7.heap.size wpx7, u.world.cell? ⟨wx2.heap.size, 1, none⟩ = some (.int .i64 vx) := fun u => cell_low u.below Hx.out.c1
            have hu2 : ∀ u : After wpx7.heap.size wpx7, u.world.cell? ⟨wx2.heap.size, 2, none⟩ = some (.slice ax (flen kx) cx) := fun u => cell_low u.below Hx.out.c2
            have hu3 : ∀ u : After wpx7.heap.size wpx7, u.world.cell? ⟨wx3.heap.size, 0, none⟩ = some (.int .i64 sy) := fun u => cell_low u.below Hy.out.c0
            have hu4 : ∀ u : After wpx7.heap.size wpx7, u.world.cell? ⟨wx3.heap.size, 1, none⟩ = some (.int .i64 vy) := fun u => cell_low u.below Hy.out.c1
            have hu5 : ∀ u : After wpx7.heap.size wpx7, u.world.cell? ⟨wx3.heap.size, 2, none⟩ = some (.slice ay (flen ky) cy) := fun u => cell_low u.below Hy.out.c2
            go_wp2_with fail
            refine wp_region_mix (fun w' => ∃ u : After wpx7.heap.size wpx7, w' = u.world) [] [(0, 0), (1, 0), (3, 0), (4, 0), (5, 0), (2, 1), (6, 1), (7, 0), (8, 0), (9, 0), (10, 0), (11, 1), (12, 0), (13, 0), (14, 1)] (by kernel_rfl) (by kernel_rfl) ⟨⟨_, (Below.refl _ _).drew⟩, rfl⟩ ?_
            have HBD : Hid (Below wpx7.heap.size wpx7 wpx7.drew) := (Below.refl _ _).drew
            generalize wpx7.drew = wd7 at *
            iterate 5
              refine mix_see rfl (fun K hK => ?_)
              go_simp
              refine hK _ ?_
              clear hK K
            refine mix_hold rfl (fun K hK => ?_)
            go_simp
            with_reducible refine (laTerm_any (fsz kx) sx vx ax cx kx sy vy ay cy ky _ (Hx.out.sl.next HBD.out) (Hy.out.sl.next HBD.out) (Nat.le_refl _) (by omega)).mono ?_
            rw [HE.out]
            rintro e wpx8 ⟨rfl, hb⟩
            replace HBD := Lib.hid (below_next HBD.out hb)
            refine hK _ _ ⟨⟨_, HBD.out⟩, rfl⟩ ?_
            clear hK K hb
            refine mix_hold rfl (fun K hK => ?_)
            go_simp
            with_reducible refine (iOrderMore_any xs A C sx vx ax cx kx sy vy ay cy ky _ (Hr.out.next HBD.out) (Hx.out.sl.next HBD.out) (Hy.out.sl.next HBD.out)).mono ?_
            rw [HM1.out]
            rintro e wpx9 ⟨rfl, hb⟩
            replace HBD := Lib.hid (below_next HBD.out hb)
            refine hK _ _ ⟨⟨_, HBD.out⟩, rfl⟩ ?_
            clear hK K hb
            iterate 4
              refine mix_see rfl (fun K hK => ?_)
              go_simp
              refine hK _ ?_
              clear hK K
            clear hu0 hu1 hu2 hu3 hu4 hu5
            iterate 1
              refine mix_hold rfl (fun K hK => ?_)
              go_simp
              refine hK _ _ ⟨⟨_, HBD.out⟩, rfl⟩ ?_
              clear hK K
            iterate 2
              refine mix_see rfl (fun K hK => ?_)
              go_simp
              refine hK _ ?_
              clear hK K
            iterate 1
              refine mix_hold rfl (fun K hK => ?_)
              go_simp
              refine hK _ _ ⟨⟨_, HBD.out⟩, rfl⟩ ?_
              clear hK K
            refine mix_end ?_
            have Hlow2 := Lib.hid (below_next Hlow.out HBD.out)
            go_wp2_with fail
            go_ret
            exact ⟨rfl, Hlow2.out⟩
          | false =>
            have HM1 := Lib.hid hm1
            clear hm1
            cases hm2 : moreR xs sy vy ky sx vx kx with
            | false =>
              have HM2 := Lib.hid hm2
              clear hm2
              have HALL2 := HALL.out
              rw [HM1.out, HM2.out] at HALL2
              simp at HALL2
              have HE := Lib.hid HALL2
              clear HALL2 HALL
              have hu0 : ∀ u : After wpx7.heap.size wpx7, u.world.cell? ⟨wx2.heap.size, 0, none⟩ = some (.int .i64 sx) := fun u => cell_low u.below Hx.out.c0
              have hu1 : ∀ u : After wpx7.heap.size wpx7, u.world.cell? ⟨wx2.heap.size, 1, none⟩ = some (.int .i64 vx) := fun u => cell_low u.below Hx.out.c1
              have hu2 : ∀ u : After wpx7.heap.size wpx7, u.world.cell? ⟨wx2.heap.size, 2, none⟩ = some (.slice ax (flen kx) cx) := fun u => cell_low u.below Hx.out.c2
              have hu3 : ∀ u : After wpx7.heap.size wpx7, u.world.cell? ⟨wx3.heap.size, 0, none⟩ = some (.int .i64 sy) := fun u => cell_low u.below Hy.out.c0
              have hu4 : ∀ u : After wpx7.heap.size wpx7, u.world.cell? ⟨wx3.heap.size, 1, none⟩ = some (.int .i64 vy) := fun u => cell_low u.below Hy.out.c1
              have hu5 : ∀ u : After wpx7.heap.size wpx7, u.world.cell? ⟨wx3.heap.size, 2, none⟩ = some (.slice ay (flen ky) cy) := fun u => cell_low u.below Hy.out.c2
              go_wp2_with fail
              refine wp_region_mix (fun w' => ∃ u : After wpx7.heap.size wpx7, w' = u.world) [] [(0, 0), (1, 0), (3, 0), (4, 0), (5, 0), (2, 1), (6, 1), (7, 0), (8, 0), (9, 0), (10, 0), (11, 1), (12, 0), (13, 0), (14, 1)] (by kernel_rfl) (by kernel_rfl) ⟨⟨_, (Below.refl _ _).drew⟩, rfl⟩ ?_
              have HBD : Hid (Below wpx7.heap.size wpx7 wpx7.drew) := (Below.refl _ _).drew
              generalize wpx7.drew = wd7 at *
              iterate 5
                refine mix_see rfl (fun K hK => ?_)
                go_simp
                refine hK _ ?_
                clear hK K
              refine mix_hold rfl (fun K hK => ?_)
              go_simp
              with_reducible refine (laTerm_any (fsz kx) sx vx ax cx kx sy vy ay cy ky _ (Hx.out.sl.next HBD.out) (Hy.out.sl.next HBD.out) (Nat.le_refl _) (by omega)).mono ?_
              rw [HE.out]
              rintro e wpx8 ⟨rfl, hb⟩
              replace HBD := Lib.hid (below_next HBD.out hb)
              refine hK _ _ ⟨⟨_, HBD.out⟩, rfl⟩ ?_
              clear hK K hb
              refine mix_hold rfl (fun K hK => ?_)
              go_simp
              with_reducible refine (iOrderMore_any xs A C sx vx ax cx kx sy vy ay cy ky _ (Hr.out.next HBD.out) (Hx.out.sl.next HBD.out) (Hy.out.sl.next HBD.out)).mono ?_
              rw [HM1.out]
              rintro e wpx9 ⟨rfl, hb⟩
              replace HBD := Lib.hid (below_next HBD.out hb)
              refine hK _ _ ⟨⟨_, HBD.out⟩, rfl⟩ ?_
              clear hK K hb
              iterate 4
                refine mix_see rfl (fun K hK => ?_)
                go_simp
                refine hK _ ?_
                clear hK K
              clear hu0 hu1 hu2 hu3 hu4 hu5
              refine mix_hold rfl (fun K hK => ?_)
              go_simp
              with_reducible refine (iOrderMore_any xs A C sy vy ay cy ky sx vx ax cx kx _ (Hr.out.next HBD.out) (Hy.out.sl.next HBD.out) (Hx.out.sl.next HBD.out)).mono ?_
              rw [HM2.out]
              rintro e wpx10 ⟨rfl, hb⟩
              replace HBD := Lib.hid (below_next HBD.out hb)
              refine hK _ _ ⟨⟨_, HBD.out⟩, rfl⟩ ?_
              clear hK K hb
              iterate 2
                refine mix_see rfl (fun K hK => ?_)
                go_simp
                refine hK _ ?_
                clear hK K
              iterate 1
                refine mix_hold rfl (fun K hK => ?_)
                go_simp
                refine hK _ _ ⟨⟨_, HBD.out⟩, rfl⟩ ?_
                clear hK K
              refine mix_end ?_
              have Hlow2 := Lib.hid (below_next Hlow.out HBD.out)
              go_wp2_with fail
              go_ret
              exact ⟨rfl, Hlow2.out⟩
            | true =>
              have HM2 := Lib.hid hm2
              clear hm2
              have HALL2 := HALL.out
              rw [HM1.out, HM2.out] at HALL2
              simp at HALL2
              have HE := Lib.hid HALL2
              clear HALL2 HALL
              have hu0 : ∀ u : After wpx7.heap.size wpx7, u.world.cell? ⟨wx2.heap.size, 0, none⟩ = some (.int .i64 sx) := fun u => cell_low u.below Hx.out.c0
              have hu1 : ∀ u : After wpx7.heap.size wpx7, u.world.cell? ⟨wx2.heap.size, 1, none⟩ = some (.int .i64 vx) := fun u => cell_low u.below Hx.out.c1
              have hu2 : ∀ u : After wpx7.heap.size wpx7, u.world.cell? ⟨wx2.heap.size, 2, none⟩ = some (.slice ax (flen kx) cx) := fun u => cell_low u.below Hx.out.c2
              have hu3 : ∀ u : After wpx7.heap.size wpx7, u.world.cell? ⟨wx3.heap.size, 0, none⟩ = some (.int .i64 sy) := fun u => cell_low u.below Hy.out.c0
              have hu4 : ∀ u : After wpx7.heap.size wpx7, u.world.cell? ⟨wx3.heap.size, 1, none⟩ = some (.int .i64 vy) := fun u => cell_low u.below Hy.out.c1
              have hu5 : ∀ u : After wpx7.heap.size wpx7, u.world.cell? ⟨wx3.heap.size, 2, none⟩ = some (.slice ay (flen ky) cy) := fun u => cell_low u.below Hy.out.c2
              go_wp2_with fail
              refine wp_region_mix (fun w' => ∃ u : After wpx7.heap.size wpx7, w' = u.world) [] [(0, 0), (1, 0), (3, 0), (4, 0), (5, 0), (2, 1), (6, 1), (7, 0), (8, 0), (9, 0), (10, 0), (11, 1), (12, 0), (13, 0), (14, 1)] (by kernel_rfl) (by kernel_rfl) ⟨⟨_, (Below.refl _ _).drew⟩, rfl⟩ ?_
              have HBD : Hid (Below wpx7.heap.size wpx7 wpx7.drew) := (Below.refl _ _).drew
              generalize wpx7.drew = wd7 at *
              iterate 5
                refine mix_see rfl (fun K hK => ?_)
                go_simp
                refine hK _ ?_
                clear hK K
              refine mix_hold rfl (fun K hK => ?_)
              go_simp
              with_reducible refine (laTerm_any (fsz kx) sx vx ax cx kx sy vy ay cy ky _ (Hx.out.sl.next HBD.out) (Hy.out.sl.next HBD.out) (Nat.le_refl _) (by omega)).mono ?_
              rw [HE.out]
              rintro e wpx8 ⟨rfl, hb⟩
              replace HBD := Lib.hid (below_next HBD.out hb)
              refine hK _ _ ⟨⟨_, HBD.out⟩, rfl⟩ ?_
              clear hK K hb
              refine mix_hold rfl (fun K hK => ?_)
              go_simp
              with_reducible refine (iOrderMore_any xs A C sx vx ax cx kx sy vy ay cy ky _ (Hr.out.next HBD.out) (Hx.out.sl.next HBD.out) (Hy.out.sl.next HBD.out)).mono ?_
              rw [HM1.out]
              rintro e wpx9 ⟨rfl, hb⟩
              replace HBD := Lib.hid (below_next HBD.out hb)
              refine hK _ _ ⟨⟨_, HBD.out⟩, rfl⟩ ?_
              clear hK K hb
              iterate 4
                refine mix_see rfl (fun K hK => ?_)
                go_simp
                refine hK _ ?_
                clear hK K
              clear hu0 hu1 hu2 hu3 hu4 hu5
              refine mix_hold rfl (fun K hK => ?_)
              go_simp
              with_reducible refine (iOrderMore_any xs A C sy vy ay cy ky sx vx ax cx kx _ (Hr.out.next HBD.out) (Hy.out.sl.next HBD.out) (Hx.out.sl.next HBD.out)).mono ?_
              rw [HM2.out]
              rintro e wpx10 ⟨rfl, hb⟩
              replace HBD := Lib.hid (below_next HBD.out hb)
              refine hK _ _ ⟨⟨_, HBD.out⟩, rfl⟩ ?_
              clear hK K hb
              iterate 2
                refine mix_see rfl (fun K hK => ?_)
                go_simp
                refine hK _ ?_
                clear hK K
              iterate 1
                refine mix_hold rfl (fun K hK => ?_)
                go_simp
                refine hK _ _ ⟨⟨_, HBD.out⟩, rfl⟩ ?_
                clear hK K
              refine mix_end ?_
              have Hlow2 := Lib.hid (below_next Hlow.out HBD.out)
              go_wp2_with fail
              go_ret
              exact ⟨rfl, Hlow2.out⟩
        · have hgz : (0 : Int) < (x3.length : Int) + (x4.length : Int) := by omega
          have hgu : (x3.length : Int) + (x4.length : Int) ≤ 24 := by omega
          generalize (x3.length : Int) + (x4.length : Int) = z at *
          have hv : IntKind.i64.wrap z = z := by rw [IntKind.wrap_i64]; omega
          go_wp2_with fail
          go_ret
          exact ⟨rfl, Hlow.out⟩
end Go.Proofs.YtiinmlagcbjloaaGreat
