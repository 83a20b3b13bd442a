/- Several texts in one: RD4. -/
import Derived.Test.YtbnbogdglffkmaaDoorKRd10
import Derived.Test.YtbnbogdglffkmaaDoorKRd9

/-! RD4: The reader of texts: a variable. -/
namespace Go.Proofs.YtbnbogdglffkmaaDoor
open Go.RowKit Go.Deep

theorem drop_le (l : List UInt8) : (l.dropWhile isDig).length ≤ l.length := by
  have := congrArg List.length (List.takeWhile_append_dropWhile (p := isDig) (l := l))
  rw [List.length_append] at this
  omega
theorem take_ext (l : List UInt8) (n : Int) (hn : n = (l.length : Int) - ((l.dropWhile isDig).length : Int)) : (str l).extract 0 n.toNat = str (l.takeWhile isDig) := by
  apply str_of
  rw [Lib.extract_data, str_toList, List.drop_zero, ← take_digs]
  congr 1
  have := drop_le l
  omega

set_option maxRecDepth 100000 in
set_option maxHeartbeats 1000000 in
theorem variable_any (br : Nat) (l : List UInt8) (room : Nat) (w : World) (h : RdAt w br l room) (hl : l.length ≤ 1048576) (hE : ErrAt w br) :
    Calls Tryd.prog 45 #[.pointer (some ⟨br, 0, none⟩)] w (NdPost br w ((numV (l.takeWhile isDig)).map fun (n : Nat) => ((0, (n : Int), .nil), room, l.dropWhile isDig))) := by
  have hle := drop_le l
  have hz1 : (str l).size = l.length := str_size l
  have hz2 : (str (l.dropWhile isDig)).size = (l.dropWhile isDig).length := str_size _
  have h0 := h.c0
  have HH := Lib.hid h
  have HE := Lib.hid hE
  clear h hE
  go_enter Tryd.func45, Tryd.ntmps45
  go_wp2_with (go_at_call 58; refine (trimLeft_any _ _).mono ?_; rintro e w2 ⟨rfl, hb⟩)
  have hR := HH.out.below hb HH.out.lt
  have hc0 := hR.c0
  have hf0 := hR.f0
  have hcu : ∀ u : After w2.heap.size w2, u.world.cell? ⟨br, 0, none⟩ = some (.string (str l)) := fun u => u.cell hR.lt hc0
  refine wp_region_after w2.heap.size (by kernel_rfl) (by kernel_rfl) ?_
  repeat (go_big_quiet_step (fail))
  refine wpQuiet_nil ?_
  rintro _ ⟨u, rfl⟩
  have hR2 := (hR.below u.below hR.lt).rest (l.dropWhile isDig)
  have hK2 := ((Rk.of_below (br := br) hb).trans (Rk.of_below u.below)).trans (Rk.set br u.world 0 (.string (str (l.dropWhile isDig))))
  have hE2 := HE.out.same (hK2.same (Nat.le_refl _) (Nat.le_of_lt HH.out.lt))
  have HR2 := Lib.hid hR2
  have HK2 := Lib.hid hK2
  have HE2 := Lib.hid hE2
  have htk0 := take_ext l _ rfl
  rw [show ((l.length : Int) - ((l.dropWhile isDig).length : Int)).toNat = l.length - (l.dropWhile isDig).length from by omega] at htk0
  have htk := Lib.hid htk0
  clear htk0
  clear hR2 hK2 hE2
  have hdd := mem_take_dig (l := l)
  have hdl : (l.takeWhile isDig).length ≤ 1048576 := by
    have := congrArg List.length (List.takeWhile_append_dropWhile (p := isDig) (l := l))
    rw [List.length_append] at this
    omega
  have HDD := Lib.hid hdd
  clear hdd hcu
  have hR1 := hR.below u.below hR.lt
  have huc := hR1.c0
  have huf := hR1.f0
  clear hR1
  have hsz12 : ∀ n : Nat, n < 12 → (str (Lib.decDigits n)).size ≤ 2 := fun n hn => by rw [str_size]; exact dec_len (by omega)
  have HSZ := Lib.hid hsz12
  clear hsz12
  go_wp2_with fail
  rw [htk.out]
  clear htk huc huf
  with_reducible refine (atoi_any (l.takeWhile isDig) hdl _ (B := br) ?_).mono ?_
  · exact HE2.out
  rintro e w3 ⟨hb3, hcase⟩
  have HR3 := Lib.hid (HR2.out.below hb3 HR2.out.lt)
  have HK3 := Lib.hid (HK2.out.trans (Rk.of_below hb3))
  clear hb3
  cases hn : numV (l.takeWhile isDig) with
  | some n =>
    have hA := atoi_num hn
    obtain ⟨hn1, hn2⟩ := numV_some hn
    rcases hcase with ⟨v, hv, rfl⟩ | ⟨hno, _⟩
    · obtain rfl : v = (n : Int) := by rw [hA] at hv; injection hv with hv; exact hv.symm
      have HN2 := Lib.hid hn2
      have HNV := Lib.hid hn
      clear hA hv hn
      go_wp2_with (go_at_call 60; refine (itoa_any _ (by omega) (by omega) _).mono ?_; rintro e w4 ⟨rfl, rfl⟩)
      go_ret2
      show NdPost br w _ _ _
      rw [HNV.out]
      refine ⟨_, _, _, rfl, HK3.out, HR3.out, fun s v k m r e => ?_⟩
      simp only [Option.map_some, Option.some.injEq, Prod.mk.injEq] at e
      obtain ⟨⟨rfl, rfl, rfl⟩, rfl, rfl⟩ := e
      exact ⟨rfl, rfl, .inl ⟨rfl, rfl, rfl⟩⟩
    · exact absurd hA (hno _)
  | none =>
    have HNV := Lib.hid hn
    rcases hcase with ⟨v, hv, rfl⟩ | ⟨_, v, t, p, rfl⟩
    · have h0 := atoi_pos HDD.out hv
      by_cases h12 : v < 12
      · have hne : Lib.decDigits v.toNat ≠ l.takeWhile isDig := fun e => by have := num_small HDD.out hv h12 e; rw [hn] at this; cases this
        have hq : ((str (Lib.decDigits v.toNat)).toList == (str (l.takeWhile isDig)).toList) = false := by
          rw [Lib.toList_data, Lib.toList_data, str_toList, str_toList]
          simpa using hne
        clear hne
        go_wp2_with (go_at_call 60; refine (itoa_any _ (by omega) (by omega) _).mono ?_; rintro e w4 ⟨rfl, rfl⟩)
        go_ret2
        show NdPost br w _ _ _
        rw [HNV.out]
        exact ⟨_, _, _, rfl, HK3.out, HR3.out, fun s v k m r e => by cases e⟩
      · go_wp2_with fail
        go_ret2
        show NdPost br w _ _ _
        rw [HNV.out]
        exact ⟨_, _, _, rfl, HK3.out, HR3.out, fun s v k m r e => by cases e⟩
    · go_wp2_with fail
      go_ret2
      show NdPost br w _ _ _
      rw [HNV.out]
      exact ⟨_, _, _, rfl, HK3.out, HR3.out, fun s v k m r e => by cases e⟩
end Go.Proofs.YtbnbogdglffkmaaDoor
