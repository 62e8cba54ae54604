/- The walk of NumScalars. -/
import Derived.Test.YthdchkjipafmfaaDoorScal
import Derived.Test.YthdchkjipafmfaaDoorKnown
namespace Go.Proofs.YthdchkjipafmfaaDoor
open Go.RowKit

theorem law_scalars (k n : Int) (s : ByteArray) (t : Bool) (hs : s.size ≤ 140737488351232) (hn : -9223372036854775808 ≤ n ∧ n ≤ 9223372036854775807) (w : World) (hT : Tab w) :
    Calls Tryd.prog 3 #[.agg #[.int .i64 k, .int .i64 n, .string s, .bool t]] w fun e w' => e = .returned (.bool true) ∧ Gr w w' := by
  have HT := Lib.hid hT
  have Hn := Lib.hid hn
  clear hT hn
  by_cases hl : 16384 < s.size
  · go_enter Tryd.func3, Tryd.ntmps3
    go_wp2_with (first | (go_at_call 15; refine (long_any _ _ (by omega)).mono ?_; rintro e w' ⟨rfl, rfl⟩) | (go_at_call 16; refine (known_any _).mono ?_; rintro e w' ⟨rfl, hg⟩))
    go_ret
    exact ⟨rfl, ((Gr.refl w).alloc _).trans hg⟩
  · have hvc := validZ_cases k n s.data.toList
    by_cases hv : validZ k n s.data.toList = 0
    · have hv' := Lib.hid hv
      have hk1 : Hid (k = 1 → isNumB n = true) := Lib.hid (fun h => valid_num (by rw [← h]; exact hv))
      clear hv hvc
      go_enter Tryd.func3, Tryd.ntmps3
      go_wp2_with (first | (go_at_call 15; refine (long_any _ _ (by omega)).mono ?_; rintro e w' ⟨rfl, rfl⟩))
      refine (refValidate_any _ _ _ _ _ hs).mono ?_
      rw [hv'.out]
      rintro e w1 ⟨rfl, hg1⟩
      obtain ⟨c0, c1, c2, c3⟩ := boxed4 hg1
      have hg := ((Gr.refl w).alloc _).trans hg1
      go_wp2_with fail
      clear c0 c1 c2 c3
      refine (numberOf_ok _ _ _ _ _ hs hv'.out).mono ?_
      rintro e w2 ⟨rfl, h2⟩
      replace hg1 := hg1.trans h2
      replace hg := hg.trans h2
      obtain ⟨c0, c1, c2, c3⟩ := boxed4 hg1
      clear h2
      go_wp2_with fail
      clear c0 c1 c2 c3
      refine (textOf_ok _ _ _ _ _ hs Hn.out (HT.out.on hg) hv'.out).mono ?_
      rintro e w3 ⟨r, hr, rfl, h3⟩
      have Hr := Lib.hid hr
      replace hg1 := hg1.trans h3
      replace hg := hg.trans h3
      obtain ⟨c0, c1, c2, c3⟩ := boxed4 hg1
      clear h3 hr
      go_wp2_with fail
      clear c0 c1 c2 c3
      refine (truth_ok _ _ _ _ _ hs Hn.out (HT.out.on hg) hv'.out).mono ?_
      rintro e w4 ⟨rfl, h4⟩
      replace hg1 := hg1.trans h4
      replace hg := hg.trans h4
      obtain ⟨c0, c1, c2, c3⟩ := boxed4 hg1
      clear h4
      generalize hB : truthB (textL k n s.data.toList) = B
      have HB := Lib.hid hB
      clear hB
      go_wp2_with fail
      clear c0 c1 c2 c3
      refine (validate_any _ _ _ _ _ hs).mono ?_
      rw [hv'.out]
      rintro e w5 ⟨rfl, h5⟩
      replace hg1 := hg1.trans h5
      replace hg := hg.trans h5
      obtain ⟨c0, c1, c2, c3⟩ := boxed4 hg1
      clear h5
      go_wp2_with fail
      clear c0 c1 c2 c3
      refine (refNumber_any _ _ _ _ _ hs).mono ?_
      rintro e w6 ⟨rfl, h6⟩
      replace hg1 := hg1.trans h6
      replace hg := hg.trans h6
      obtain ⟨c0, c1, c2, c3⟩ := boxed4 hg1
      clear h6
      go_wp2_with fail
      clear c0 c1 c2 c3
      refine (refText_any _ _ _ _ _ hk1.out).mono ?_
      rintro e w7 ⟨r2, hr2, rfl, h7⟩
      have heq : (r.toList == r2.toList) = true := by rw [ByteArray.toList_eq, ByteArray.toList_eq, Hr.out, hr2]; simp
      replace hg1 := hg1.trans h7
      replace hg := hg.trans h7
      obtain ⟨c0, c1, c2, c3⟩ := boxed4 hg1
      clear h7 hr2
      go_wp2_with fail
      clear c0 c1 c2 c3
      refine (refIsTrue_any _ _ _ _ _ hk1.out).mono ?_
      rw [HB.out]
      rintro e w8 ⟨rfl, h8⟩
      replace hg := hg.trans h8
      clear h8 hg1
      go_wp2_with fail
      refine (known_any _).mono ?_
      rintro e w9 ⟨rfl, h9⟩
      go_wp2
      go_ret
      exact ⟨rfl, hg.trans h9⟩
    · have hv0 : (validZ k n s.data.toList == 0) = false := by simpa using hv
      have Hv0 := Lib.hid hv0
      have HV := Lib.hid (fun w => validate_any k n s t w hs)
      have HW := Lib.hid (fun w => refValidate_any k n s t w hs)
      have HX := Lib.hid (fun w => numberOf_no k n s t w hs hv0)
      have HY := Lib.hid (fun w => textOf_no k n s t w hs hv0)
      have HZ := Lib.hid (fun w => truth_no k n s t w hs hv0)
      clear Hv0 hv
      generalize validZ k n s.data.toList = V at *
      obtain hV : V = 1 ∨ V = 3 := by
        rcases hvc with h | h | h
        · simp [h] at hv0
        · exact .inl h
        · exact .inr h
      clear hvc hv0
      rcases hV with rfl | rfl
      all_goals
        go_enter Tryd.func3, Tryd.ntmps3
        go_wp2_with (first | (go_at_call 15; refine (long_any _ _ (by omega)).mono ?_; rintro e w' ⟨rfl, rfl⟩))
        refine (HW.out _).mono ?_
        rintro e w1 ⟨rfl, hg1⟩
        obtain ⟨c0, c1, c2, c3⟩ := boxed4 hg1
        have hg := ((Gr.refl w).alloc _).trans hg1
        go_wp2_with fail
        clear c0 c1 c2 c3
        refine (HX.out _).mono ?_
        rintro e w2 ⟨rfl, h2⟩
        replace hg1 := hg1.trans h2
        replace hg := hg.trans h2
        obtain ⟨c0, c1, c2, c3⟩ := boxed4 hg1
        clear h2
        go_wp2_with fail
        clear c0 c1 c2 c3
        refine (HY.out _).mono ?_
        rintro e w3 ⟨r, hr, rfl, h3⟩
        have hre : r.toList.isEmpty = true := by rw [ByteArray.toList_eq, hr]; rfl
        replace hg1 := hg1.trans h3
        replace hg := hg.trans h3
        obtain ⟨c0, c1, c2, c3⟩ := boxed4 hg1
        clear h3 hr
        go_wp2_with fail
        clear c0 c1 c2 c3
        refine (HZ.out _).mono ?_
        rintro e w4 ⟨rfl, h4⟩
        replace hg1 := hg1.trans h4
        replace hg := hg.trans h4
        obtain ⟨c0, c1, c2, c3⟩ := boxed4 hg1
        clear h4
        go_wp2_with fail
        clear c0 c1 c2 c3
        refine (HV.out _).mono ?_
        rintro e w5 ⟨rfl, h5⟩
        replace hg := hg.trans h5
        clear h5 hg1
        go_wp2_with fail
        refine (known_any _).mono ?_
        rintro e w9 ⟨rfl, h9⟩
        go_wp2
        go_ret
        exact ⟨rfl, hg.trans h9⟩
end Go.Proofs.YthdchkjipafmfaaDoor
