/- The program's Sub, for every text and places. -/
import Derived.Test.YtcaoknlgbocgpaaGreatDoorCSub2
namespace Go.Proofs.YtcaoknlgbocgpaaGreatDoor
open Go.RowKit Go.Shelf
set_option maxRecDepth 100000 in
set_option maxHeartbeats 400000 in
theorem sub_out (s : ByteArray) (f n : Int) (hf : -9223372036854775808 ≤ f ∧ f ≤ 9223372036854775807) (h : chkE s.data.toList = 0) (w : World)
    (h2 : ¬ (0 ≤ subF (runesL s.data.toList).length f ∧ subF (runesL s.data.toList).length f ≤ (runesL s.data.toList).length)) :
    Calls Tryz.prog 20 #[.string s, .int .i64 f, .int .i64 n] w (TxtQ (subT s.data.toList f n) w) := by
  have HC := Lib.hid (check1 s w _ 9 (0, 0) rfl)
  have HE := Lib.hid (subT_out (n := n) h h2)
  obtain ⟨k1, k2⟩ := chkE_zero h
  rw [sizeL] at k1
  have hrl := runesL_len s.data.toList
  rw [sizeL] at hrl
  have hR4 : (runesL s.data.toList).length ≤ 4096 := by omega
  have HM := Lib.hid (fun w => countV s k1 k2 w)
  rw [h] at HC
  clear h k1 k2
  generalize (runesL s.data.toList).length = R at *
  by_cases c1 : f < 0
  · have h3 : f + (R : Int) < 0 := by
      unfold subF at h2; rw [if_pos c1] at h2; omega
    clear h2
    go_enter Tryz.func20, Tryz.ntmps20
    go_wp2_with fail
    refine HC.out.mono ?_
    rintro e w3 ⟨rfl, g3⟩
    go_wp2_with fail
    refine (HM.out _).mono ?_
    rintro e w4 ⟨rfl, g4⟩
    go_wp2
    go_ret2
    exact ⟨by rw [HE.out]; rfl, Gr.trans g3 g4⟩
  · have h3 : (R : Int) < f := by
      unfold subF at h2; rw [if_neg c1] at h2; omega
    clear h2
    go_enter Tryz.func20, Tryz.ntmps20
    go_wp2_with fail
    refine HC.out.mono ?_
    rintro e w3 ⟨rfl, g3⟩
    go_wp2_with fail
    refine (HM.out _).mono ?_
    rintro e w4 ⟨rfl, g4⟩
    go_wp2
    go_ret2
    exact ⟨by rw [HE.out]; rfl, Gr.trans g3 g4⟩
set_option maxRecDepth 100000 in
theorem sub_p (s : ByteArray) (f n : Int) (hf : -9223372036854775808 ≤ f ∧ f ≤ 9223372036854775807) (hn : -9223372036854775808 ≤ n ∧ n ≤ 9223372036854775807) (w : World) :
    Calls Tryz.prog 20 #[.string s, .int .i64 f, .int .i64 n] w (TxtQ (subT s.data.toList f n) w) := by
  by_cases h : chkE s.data.toList = 0
  · by_cases h2 : 0 ≤ subF (runesL s.data.toList).length f ∧ subF (runesL s.data.toList).length f ≤ (runesL s.data.toList).length
    · obtain ⟨k1, k2⟩ := h2
      by_cases c1 : f < 0
      · have e : subF (runesL s.data.toList).length f = f + ((runesL s.data.toList).length : Int) := if_pos c1
        rw [e] at k1 k2
        by_cases c4 : n < 0
        · by_cases c5 : (f + ((runesL s.data.toList).length : Int)) < ((runesL s.data.toList).length : Int) + n
          · exact sub_4 s f n hf hn h w c1 k1 k2 c4 c5
          · exact sub_5 s f n hf hn h w c1 k1 k2 c4 (by omega)
        · by_cases c5 : n < ((runesL s.data.toList).length : Int) - (f + ((runesL s.data.toList).length : Int))
          · exact sub_6 s f n hf hn h w c1 k1 k2 c4 c5
          · exact sub_7 s f n hf hn h w c1 k1 k2 c4 c5
      · have e : subF (runesL s.data.toList).length f = f := if_neg c1
        rw [e] at k1 k2
        by_cases c4 : n < 0
        · by_cases c5 : f < ((runesL s.data.toList).length : Int) + n
          · exact sub_0 s f n hf hn h w c1 k1 k2 c4 c5
          · exact sub_1 s f n hf hn h w c1 k1 k2 c4 (by omega)
        · by_cases c5 : n < ((runesL s.data.toList).length : Int) - f
          · exact sub_2 s f n hf hn h w c1 k1 k2 c4 c5
          · exact sub_3 s f n hf hn h w c1 k1 k2 c4 c5
    · exact sub_out s f n hf h w h2
  · have HC := Lib.hid (check1 s w _ 9 (0, 0) rfl)
    have HE := Lib.hid (subT_no (f := f) (n := n) h)
    have hb : (chkE s.data.toList == 0) = false := beq_eq_false_iff_ne.2 h
    clear h
    generalize chkE s.data.toList = E at *
    go_enter Tryz.func20, Tryz.ntmps20
    go_wp2_with (go_at_call 31; refine HC.out.mono ?_; rintro e w3 ⟨rfl, g3⟩)
    go_ret2
    exact ⟨by rw [HE.out]; rfl, g3⟩
end Go.Proofs.YtcaoknlgbocgpaaGreatDoor
