/- The reference's Sub, for every text and places; the law on parts. -/
import Derived.Test.YtlacfknoanjlpaaDoorCLSubP
import Derived.Test.YtlacfknoanjlpaaDoorCLSubM
namespace Go.Proofs.YtlacfknoanjlpaaDoor
open Go.RowKit Go.Shelf
set_option maxRecDepth 100000 in
set_option maxHeartbeats 400000 in
theorem subr_out (s : ByteArray) (hs : s.size ≤ 140000) (f n : Int) (hf : -9223372036854775808 ≤ f ∧ f ≤ 9223372036854775807) (h : chkE s.data.toList = 0) (w : World)
    (h2 : ¬ (0 ≤ subF (runesL s.data.toList).length f ∧ subF (runesL s.data.toList).length f ≤ (runesL s.data.toList).length)) :
    Calls Tryd.prog 33 #[.string s, .int .i64 f, .int .i64 n] w (TxtQ (subT s.data.toList f n) w) := by
  have HC := Lib.hid (fun w => checked_r s (by omega) w)
  have HE := Lib.hid (subT_out (n := n) h h2)
  have HM := Lib.hid (fun w => runes_r s hs w)
  have hrl := runesL_len s.data.toList
  rw [sizeL] at hrl
  rw [h] at HC
  clear h
  generalize runesL s.data.toList = R at *
  have h3 : f < -(R.length : Int) ∨ (R.length : Int) < f := by
    unfold subF at h2
    by_cases c : f < 0
    · rw [if_pos c] at h2; omega
    · rw [if_neg c] at h2; omega
  clear h2
  rcases h3 with h3 | h3
  all_goals
    go_enter Tryd.func33, Tryd.ntmps33
    go_wp2_with fail
    refine (HC.out _).mono ?_
    rintro e w3 ⟨rfl, rfl⟩
    go_wp2_with fail
    refine (HM.out _).mono ?_
    rintro e w4 ⟨v, rfl, ho, g4⟩
    obtain ⟨ao, cap, rfl, _⟩ := ho.ints
    go_wp2
    go_ret2
    refine ⟨?_, g4⟩
    rw [HE.out]
    simp
set_option maxRecDepth 100000 in
theorem sub_r (s : ByteArray) (hs : s.size ≤ 140000) (f n : Int) (hf : -9223372036854775808 ≤ f ∧ f ≤ 9223372036854775807) (hn : -9223372036854775808 ≤ n ∧ n ≤ 9223372036854775807) (w : World) :
    Calls Tryd.prog 33 #[.string s, .int .i64 f, .int .i64 n] w (TxtQ (subT s.data.toList f n) w) := by
  by_cases h : chkE s.data.toList = 0
  · by_cases h2 : 0 ≤ subF (runesL s.data.toList).length f ∧ subF (runesL s.data.toList).length f ≤ (runesL s.data.toList).length
    · obtain ⟨k1, k2⟩ := h2
      by_cases c1 : f < 0
      · have e : subF (runesL s.data.toList).length f = f + ((runesL s.data.toList).length : Int) := if_pos c1
        rw [e] at k1 k2
        by_cases c4 : n < 0
        · by_cases a1 : f + ((runesL s.data.toList).length : Int) < ((runesL s.data.toList).length : Int) + n
          · exact subr_mA s hs f n hf hn h w c1 k1 k2 c4 a1
          by_cases a2 : -((runesL s.data.toList).length : Int) ≤ n
          · by_cases a3 : ((runesL s.data.toList).length : Int) + n < f + ((runesL s.data.toList).length : Int)
            · exact subr_mB1 s hs f n hf hn h w c1 k1 k2 c4 a2 a3
            · exact subr_mB4 s hs f n hf hn h w c1 k1 k2 c4 a2 (by omega) (by omega)
          · by_cases a3 : 0 < f + ((runesL s.data.toList).length : Int)
            · exact subr_mB2 s hs f n hf hn h w c1 k1 k2 c4 (by omega) a3
            · exact subr_mB3 s hs f n hf hn h w c1 k1 k2 c4 (by omega) (by omega) (by omega)
        · by_cases c5 : n < ((runesL s.data.toList).length : Int) - (f + ((runesL s.data.toList).length : Int))
          · exact subr_mC s hs f n hf hn h w c1 k1 k2 c4 c5
          · by_cases a3 : f + ((runesL s.data.toList).length : Int) < ((runesL s.data.toList).length : Int)
            · exact subr_mD1 s hs f n hf hn h w c1 k1 k2 c4 c5 a3
            · exact subr_mD2 s hs f n hf hn h w c1 k1 k2 c4 c5 (by omega) (by omega)
      · have e : subF (runesL s.data.toList).length f = f := if_neg c1
        rw [e] at k1 k2
        by_cases z : ((runesL s.data.toList).length : Int) = 0
        · exact subr_pZ s hs f n hf hn h w c1 k1 k2 z
        by_cases c4 : n < 0
        · by_cases a1 : f < ((runesL s.data.toList).length : Int) + n
          · exact subr_pA s hs f n hf hn h w c1 k1 k2 c4 a1
          by_cases a2 : -((runesL s.data.toList).length : Int) ≤ n
          · by_cases a3 : ((runesL s.data.toList).length : Int) + n < f
            · exact subr_pB1 s hs f n hf hn h w c1 k1 k2 c4 a2 a3
            · exact subr_pB4 s hs f n hf hn h w c1 k1 k2 c4 a2 (by omega) (by omega)
          · by_cases a3 : 0 < f
            · exact subr_pB2 s hs f n hf hn h w c1 k1 k2 c4 (by omega) a3
            · exact subr_pB3 s hs f n hf hn h w c1 k1 k2 c4 (by omega) (by omega) (by omega)
        · by_cases c5 : n < ((runesL s.data.toList).length : Int) - f
          · exact subr_pC s hs f n hf hn h w c1 k1 k2 c4 c5
          · by_cases a3 : f < ((runesL s.data.toList).length : Int)
            · exact subr_pD1 s hs f n hf hn h w c1 k1 k2 c4 c5 a3
            · exact subr_pD2 s hs f n hf hn h w c1 k1 k2 c4 c5 (by omega) (by omega)
    · exact subr_out s hs f n hf h w h2
  · have HC := Lib.hid (fun w => checked_r s (by omega) w)
    have HE := Lib.hid (subT_no (f := f) (n := n) h)
    have hb : (chkE s.data.toList == 0) = false := beq_eq_false_iff_ne.2 h
    clear h
    generalize chkE s.data.toList = E at *
    go_enter Tryd.func33, Tryd.ntmps33
    go_wp2_with fail
    refine (HC.out _).mono ?_
    rintro e w3 ⟨rfl, rfl⟩
    go_wp2
    go_ret2
    exact ⟨by rw [HE.out]; rfl, Gr.refl w⟩
set_option maxRecDepth 100000 in
set_option maxHeartbeats 1000000 in
theorem law_subs (s : ByteArray) (f n : Int) (_hs : s.size ≤ 140737488351232) (hf : -9223372036854775808 ≤ f ∧ f ≤ 9223372036854775807) (hn : -9223372036854775808 ≤ n ∧ n ≤ 9223372036854775807) (w : World) (hT : Tabs w) : Calls Tryd.prog 8 #[.string s, .int .i64 f, .int .i64 n] w fun e w' => e = .returned (.bool true) ∧ Gr w w' := by
  have HK := Lib.hid (fun w (h : Tabs w) => known_any w h)
  have HT := Lib.hid hT
  clear hT
  by_cases h1 : 20000 < s.size
  · go_enter Tryd.func8, Tryd.ntmps8
    go_wp2_with fail
    refine (HK.out _ HT.out).mono ?_
    rintro e w1 ⟨rfl, g1⟩
    go_wp2
    go_ret
    exact ⟨rfl, g1⟩
  · have HR := Lib.hid (fun w => sub_r s (by omega) f n hf hn w)
    have HW := Lib.hid (fun w => width_r s (by omega) w)
    have HP := Lib.hid (fun w => sub_p s f n hf hn w)
    have HV := Lib.hid (fun w => width_p s w)
    generalize subT s.data.toList f n = A at *
    generalize widT s.data.toList = B at *
    obtain ⟨a1, a2⟩ := A
    obtain ⟨b1, b2⟩ := B
    go_enter Tryd.func8, Tryd.ntmps8
    go_wp2_with fail
    refine (HR.out _).mono ?_
    rintro e w1 ⟨rfl, g1⟩
    go_wp2_with fail
    refine (HW.out _).mono ?_
    rintro e w2 ⟨rfl, g2⟩
    go_wp2_with fail
    refine (HP.out _).mono ?_
    rintro e w3 ⟨rfl, g3⟩
    go_wp2_with fail
    refine (HV.out _).mono ?_
    rintro e w4 ⟨rfl, g4⟩
    have G := Lib.hid (Gr.trans g1 (Gr.trans g2 (Gr.trans g3 g4)))
    go_wp2_with fail
    refine (HK.out _ (HT.out.gr G.out)).mono ?_
    rintro e w5 ⟨rfl, g5⟩
    go_wp2
    go_ret
    exact ⟨by simp, Gr.trans G.out g5⟩
end Go.Proofs.YtlacfknoanjlpaaDoor
