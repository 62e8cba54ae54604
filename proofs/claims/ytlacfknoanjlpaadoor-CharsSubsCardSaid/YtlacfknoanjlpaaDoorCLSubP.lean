/- The reference's Sub: places from the begin. -/
import Derived.Test.YtlacfknoanjlpaaDoorCLSub
namespace Go.Proofs.YtlacfknoanjlpaaDoor
open Go.RowKit Go.Shelf
set_option maxRecDepth 100000 in
set_option maxHeartbeats 400000 in
theorem subr_pA (s : ByteArray) (hs : s.size ≤ 140000) (f n : Int) (_hf : -9223372036854775808 ≤ f ∧ f ≤ 9223372036854775807) (_hn : -9223372036854775808 ≤ n ∧ n ≤ 9223372036854775807) (h : chkE s.data.toList = 0) (w : World)
    (c1 : ¬ f < 0) (c2 : 0 ≤ f) (c3 : f ≤ ((runesL s.data.toList).length : Int)) (_d0 : n < 0) (_d1 : f < ((runesL s.data.toList).length : Int) + n) :
    Calls Tryd.prog 33 #[.string s, .int .i64 f, .int .i64 n] w (TxtQ (subT s.data.toList f n) w) := by
  have HC := Lib.hid (fun w => checked_r s (by omega) w)
  have HM := Lib.hid (fun w => runes_r s hs w)
  have hrl := runesL_len s.data.toList
  rw [sizeL] at hrl
  have HE := Lib.hid (subT_ok (n := n) (f) ((((runesL s.data.toList).length : Int) + n)) h (by unfold subF; rw [if_neg c1]) ⟨c2, c3⟩ (by unfold subE; rw [if_pos _d0]; omega))
  have hch := runes_ch s.data.toList
  rw [h] at HC
  clear h
  generalize runesL s.data.toList = R at *
  have hF : f = (((f).toNat : Nat) : Int) := by omega
  have hE : ((R.length : Int) + n) = (((((R.length : Int) + n)).toNat : Nat) : Int) := by omega
  generalize (f).toNat = F at *
  generalize (((R.length : Int) + n)).toNat = E at *
  have hFE : F ≤ E := by omega
  have hER : E ≤ R.length := by omega
  try rw [hF] at hE
  have hall : ((R.take E).drop F).all isCh = true := all_drop (all_take hch _) _
  have HW := Lib.hid (fun (w : World) (v : Value) (hv : IntsIs w v ((R.take E).drop F)) => write_r v _ hall (by rw [List.length_drop, List.length_take]; omega) w hv)
  generalize writeL ((R.take E).drop F) = WR at *
  clear hall hch
  go_enter Tryd.func33, Tryd.ntmps33
  go_wp2_with fail
  refine (HC.out _).mono ?_
  rintro e w1 ⟨rfl, rfl⟩
  go_wp2_with fail
  refine (HM.out _).mono ?_
  rintro e w2 ⟨v, rfl, ho, g2⟩
  obtain ⟨ao, cap, he, hcap, _⟩ := ho.cap'
  subst he
  have hFc : F < cap := by omega
  have hx := ho.ints.sub.2
  obtain ⟨b, o, rfl, _⟩ := hx 0 (by omega)
  have HI := Lib.hid (HW.out w2 _ (ints_cut (cap := cap) hx F E hFE hER))
  clear hx ho
  go_wp2_with fail
  refine HI.out.mono ?_
  rintro e w3 ⟨rfl, g3⟩
  go_wp2
  go_ret2
  exact ⟨by rw [HE.out]; rfl, Gr.trans g2 g3⟩
set_option maxRecDepth 100000 in
set_option maxHeartbeats 400000 in
theorem subr_pB1 (s : ByteArray) (hs : s.size ≤ 140000) (f n : Int) (_hf : -9223372036854775808 ≤ f ∧ f ≤ 9223372036854775807) (_hn : -9223372036854775808 ≤ n ∧ n ≤ 9223372036854775807) (h : chkE s.data.toList = 0) (w : World)
    (c1 : ¬ f < 0) (c2 : 0 ≤ f) (c3 : f ≤ ((runesL s.data.toList).length : Int)) (_d0 : n < 0) (_d1 : -((runesL s.data.toList).length : Int) ≤ n) (_d2 : ((runesL s.data.toList).length : Int) + n < f) :
    Calls Tryd.prog 33 #[.string s, .int .i64 f, .int .i64 n] w (TxtQ (subT s.data.toList f n) w) := by
  have HC := Lib.hid (fun w => checked_r s (by omega) w)
  have HM := Lib.hid (fun w => runes_r s hs w)
  have hrl := runesL_len s.data.toList
  rw [sizeL] at hrl
  have HE := Lib.hid (subT_ok (n := n) (f) (f) h (by unfold subF; rw [if_neg c1]) ⟨c2, c3⟩ (by unfold subE; rw [if_pos _d0]; omega))
  have hch := runes_ch s.data.toList
  rw [h] at HC
  clear h
  generalize runesL s.data.toList = R at *
  have hnil : writeL ((R.take (f).toNat).drop (f).toNat) = [] := by rw [List.drop_eq_nil_of_le (by rw [List.length_take]; exact Nat.min_le_left _ _)]; rfl
  rw [hnil] at HE
  clear hch hnil
  go_enter Tryd.func33, Tryd.ntmps33
  go_wp2_with fail
  refine (HC.out _).mono ?_
  rintro e w1 ⟨rfl, rfl⟩
  go_wp2_with fail
  refine (HM.out _).mono ?_
  rintro e w2 ⟨v, rfl, ho, g2⟩
  obtain ⟨ao, cap, rfl, _⟩ := ho.ints
  go_wp2
  go_ret2
  refine ⟨?_, g2⟩
  rw [HE.out]
  simp
set_option maxRecDepth 100000 in
set_option maxHeartbeats 400000 in
theorem subr_pB2 (s : ByteArray) (hs : s.size ≤ 140000) (f n : Int) (_hf : -9223372036854775808 ≤ f ∧ f ≤ 9223372036854775807) (_hn : -9223372036854775808 ≤ n ∧ n ≤ 9223372036854775807) (h : chkE s.data.toList = 0) (w : World)
    (c1 : ¬ f < 0) (c2 : 0 ≤ f) (c3 : f ≤ ((runesL s.data.toList).length : Int)) (_d0 : n < 0) (_d1 : n < -((runesL s.data.toList).length : Int)) (_d2 : 0 < f) :
    Calls Tryd.prog 33 #[.string s, .int .i64 f, .int .i64 n] w (TxtQ (subT s.data.toList f n) w) := by
  have HC := Lib.hid (fun w => checked_r s (by omega) w)
  have HM := Lib.hid (fun w => runes_r s hs w)
  have hrl := runesL_len s.data.toList
  rw [sizeL] at hrl
  have HE := Lib.hid (subT_ok (n := n) (f) (f) h (by unfold subF; rw [if_neg c1]) ⟨c2, c3⟩ (by unfold subE; rw [if_pos _d0]; omega))
  have hch := runes_ch s.data.toList
  rw [h] at HC
  clear h
  generalize runesL s.data.toList = R at *
  have hnil : writeL ((R.take (f).toNat).drop (f).toNat) = [] := by rw [List.drop_eq_nil_of_le (by rw [List.length_take]; exact Nat.min_le_left _ _)]; rfl
  rw [hnil] at HE
  clear hch hnil
  go_enter Tryd.func33, Tryd.ntmps33
  go_wp2_with fail
  refine (HC.out _).mono ?_
  rintro e w1 ⟨rfl, rfl⟩
  go_wp2_with fail
  refine (HM.out _).mono ?_
  rintro e w2 ⟨v, rfl, ho, g2⟩
  obtain ⟨ao, cap, rfl, _⟩ := ho.ints
  go_wp2
  go_ret2
  refine ⟨?_, g2⟩
  rw [HE.out]
  simp
set_option maxRecDepth 100000 in
set_option maxHeartbeats 400000 in
theorem subr_pB3 (s : ByteArray) (hs : s.size ≤ 140000) (f n : Int) (_hf : -9223372036854775808 ≤ f ∧ f ≤ 9223372036854775807) (_hn : -9223372036854775808 ≤ n ∧ n ≤ 9223372036854775807) (h : chkE s.data.toList = 0) (w : World)
    (c1 : ¬ f < 0) (c2 : 0 ≤ f) (c3 : f ≤ ((runesL s.data.toList).length : Int)) (_d0 : n < 0) (_d1 : n < -((runesL s.data.toList).length : Int)) (_d2 : f = 0) (_d3 : 0 < ((runesL s.data.toList).length : Int)) :
    Calls Tryd.prog 33 #[.string s, .int .i64 f, .int .i64 n] w (TxtQ (subT s.data.toList f n) w) := by
  have HC := Lib.hid (fun w => checked_r s (by omega) w)
  have HM := Lib.hid (fun w => runes_r s hs w)
  have hrl := runesL_len s.data.toList
  rw [sizeL] at hrl
  have HE := Lib.hid (subT_ok (n := n) (f) (f) h (by unfold subF; rw [if_neg c1]) ⟨c2, c3⟩ (by unfold subE; rw [if_pos _d0]; omega))
  have hch := runes_ch s.data.toList
  rw [h] at HC
  clear h
  generalize runesL s.data.toList = R at *
  have hnil : writeL ((R.take (f).toNat).drop (f).toNat) = [] := by rw [List.drop_eq_nil_of_le (by rw [List.length_take]; omega)]; rfl
  rw [hnil] at HE
  have HW := Lib.hid (fun (w : World) (v : Value) (hv : IntsIs w v []) => write_r v [] rfl (by simp) w hv)
  clear hch hnil
  have hF : f = (((f).toNat : Nat) : Int) := by omega
  generalize (f).toNat = F at *
  have HE2 := HE
  try rw [_d2] at HE2
  go_enter Tryd.func33, Tryd.ntmps33
  go_wp2_with fail
  refine (HC.out _).mono ?_
  rintro e w1 ⟨rfl, rfl⟩
  go_wp2_with fail
  refine (HM.out _).mono ?_
  rintro e w2 ⟨v, rfl, ho, g2⟩
  obtain ⟨ao, cap, he, hcap, _⟩ := ho.cap'
  subst he
  have hx := ho.ints.sub.2
  obtain ⟨b, o, rfl, _⟩ := hx 0 (by omega)
  clear hx ho
  go_wp2_with (go_at_call 56; refine (HW.out w2 _ (ints_empty (by omega))).mono ?_; rintro e w3 ⟨rfl, g3⟩)
  all_goals
    go_ret2
    exact ⟨by first | (rw [HE.out]; rfl) | (rw [HE2.out]; rfl), Gr.trans g2 g3⟩
set_option maxRecDepth 100000 in
set_option maxHeartbeats 400000 in
theorem subr_pB4 (s : ByteArray) (hs : s.size ≤ 140000) (f n : Int) (_hf : -9223372036854775808 ≤ f ∧ f ≤ 9223372036854775807) (_hn : -9223372036854775808 ≤ n ∧ n ≤ 9223372036854775807) (h : chkE s.data.toList = 0) (w : World)
    (c1 : ¬ f < 0) (c2 : 0 ≤ f) (c3 : f ≤ ((runesL s.data.toList).length : Int)) (_d0 : n < 0) (_d1 : -((runesL s.data.toList).length : Int) ≤ n) (_d2 : ((runesL s.data.toList).length : Int) + n = f) (_d3 : 0 < ((runesL s.data.toList).length : Int)) :
    Calls Tryd.prog 33 #[.string s, .int .i64 f, .int .i64 n] w (TxtQ (subT s.data.toList f n) w) := by
  have HC := Lib.hid (fun w => checked_r s (by omega) w)
  have HM := Lib.hid (fun w => runes_r s hs w)
  have hrl := runesL_len s.data.toList
  rw [sizeL] at hrl
  have HE := Lib.hid (subT_ok (n := n) (f) (f) h (by unfold subF; rw [if_neg c1]) ⟨c2, c3⟩ (by unfold subE; rw [if_pos _d0]; omega))
  have hch := runes_ch s.data.toList
  rw [h] at HC
  clear h
  generalize runesL s.data.toList = R at *
  have hnil : writeL ((R.take (f).toNat).drop (f).toNat) = [] := by rw [List.drop_eq_nil_of_le (by rw [List.length_take]; omega)]; rfl
  rw [hnil] at HE
  have HW := Lib.hid (fun (w : World) (v : Value) (hv : IntsIs w v []) => write_r v [] rfl (by simp) w hv)
  clear hch hnil
  have hF : f = (((f).toNat : Nat) : Int) := by omega
  generalize (f).toNat = F at *
  have HE2 := HE
  try rw [_d2] at HE2
  go_enter Tryd.func33, Tryd.ntmps33
  go_wp2_with fail
  refine (HC.out _).mono ?_
  rintro e w1 ⟨rfl, rfl⟩
  go_wp2_with fail
  refine (HM.out _).mono ?_
  rintro e w2 ⟨v, rfl, ho, g2⟩
  obtain ⟨ao, cap, he, hcap, _⟩ := ho.cap'
  subst he
  have hx := ho.ints.sub.2
  obtain ⟨b, o, rfl, _⟩ := hx 0 (by omega)
  clear hx ho
  go_wp2_with (go_at_call 56; refine (HW.out w2 _ (ints_empty (by omega))).mono ?_; rintro e w3 ⟨rfl, g3⟩)
  all_goals
    go_ret2
    exact ⟨by first | (rw [HE.out]; rfl) | (rw [HE2.out]; rfl), Gr.trans g2 g3⟩
set_option maxRecDepth 100000 in
set_option maxHeartbeats 400000 in
theorem subr_pC (s : ByteArray) (hs : s.size ≤ 140000) (f n : Int) (_hf : -9223372036854775808 ≤ f ∧ f ≤ 9223372036854775807) (_hn : -9223372036854775808 ≤ n ∧ n ≤ 9223372036854775807) (h : chkE s.data.toList = 0) (w : World)
    (c1 : ¬ f < 0) (c2 : 0 ≤ f) (c3 : f ≤ ((runesL s.data.toList).length : Int)) (_d0 : ¬ n < 0) (_d1 : n < ((runesL s.data.toList).length : Int) - f) :
    Calls Tryd.prog 33 #[.string s, .int .i64 f, .int .i64 n] w (TxtQ (subT s.data.toList f n) w) := by
  have HC := Lib.hid (fun w => checked_r s (by omega) w)
  have HM := Lib.hid (fun w => runes_r s hs w)
  have hrl := runesL_len s.data.toList
  rw [sizeL] at hrl
  have HE := Lib.hid (subT_ok (n := n) (f) ((f + n)) h (by unfold subF; rw [if_neg c1]) ⟨c2, c3⟩ (by unfold subE; rw [if_neg _d0, if_pos _d1]))
  have hch := runes_ch s.data.toList
  rw [h] at HC
  clear h
  generalize runesL s.data.toList = R at *
  have hF : f = (((f).toNat : Nat) : Int) := by omega
  have hE : (f + n) = ((((f + n)).toNat : Nat) : Int) := by omega
  generalize (f).toNat = F at *
  generalize ((f + n)).toNat = E at *
  have hFE : F ≤ E := by omega
  have hER : E ≤ R.length := by omega
  try rw [hF] at hE
  have hall : ((R.take E).drop F).all isCh = true := all_drop (all_take hch _) _
  have HW := Lib.hid (fun (w : World) (v : Value) (hv : IntsIs w v ((R.take E).drop F)) => write_r v _ hall (by rw [List.length_drop, List.length_take]; omega) w hv)
  generalize writeL ((R.take E).drop F) = WR at *
  clear hall hch
  go_enter Tryd.func33, Tryd.ntmps33
  go_wp2_with fail
  refine (HC.out _).mono ?_
  rintro e w1 ⟨rfl, rfl⟩
  go_wp2_with fail
  refine (HM.out _).mono ?_
  rintro e w2 ⟨v, rfl, ho, g2⟩
  obtain ⟨ao, cap, he, hcap, _⟩ := ho.cap'
  subst he
  have hFc : F < cap := by omega
  have hx := ho.ints.sub.2
  obtain ⟨b, o, rfl, _⟩ := hx 0 (by omega)
  have HI := Lib.hid (HW.out w2 _ (ints_cut (cap := cap) hx F E hFE hER))
  clear hx ho
  go_wp2_with fail
  refine HI.out.mono ?_
  rintro e w3 ⟨rfl, g3⟩
  go_wp2
  go_ret2
  exact ⟨by rw [HE.out]; rfl, Gr.trans g2 g3⟩
set_option maxRecDepth 100000 in
set_option maxHeartbeats 400000 in
theorem subr_pD1 (s : ByteArray) (hs : s.size ≤ 140000) (f n : Int) (_hf : -9223372036854775808 ≤ f ∧ f ≤ 9223372036854775807) (_hn : -9223372036854775808 ≤ n ∧ n ≤ 9223372036854775807) (h : chkE s.data.toList = 0) (w : World)
    (c1 : ¬ f < 0) (c2 : 0 ≤ f) (c3 : f ≤ ((runesL s.data.toList).length : Int)) (_d0 : ¬ n < 0) (_d1 : ¬ n < ((runesL s.data.toList).length : Int) - f) (_d2 : f < ((runesL s.data.toList).length : Int)) :
    Calls Tryd.prog 33 #[.string s, .int .i64 f, .int .i64 n] w (TxtQ (subT s.data.toList f n) w) := by
  have HC := Lib.hid (fun w => checked_r s (by omega) w)
  have HM := Lib.hid (fun w => runes_r s hs w)
  have hrl := runesL_len s.data.toList
  rw [sizeL] at hrl
  have HE := Lib.hid (subT_ok (n := n) (f) (((runesL s.data.toList).length : Int)) h (by unfold subF; rw [if_neg c1]) ⟨c2, c3⟩ (by unfold subE; rw [if_neg _d0, if_neg _d1]))
  have hch := runes_ch s.data.toList
  rw [h] at HC
  clear h
  generalize runesL s.data.toList = R at *
  have hF : f = (((f).toNat : Nat) : Int) := by omega
  rw [Int.toNat_natCast] at HE
  generalize (f).toNat = F at *
  have hFE : F ≤ R.length := by omega
  have hall : ((R.take R.length).drop F).all isCh = true := all_drop (all_take hch _) _
  have HW := Lib.hid (fun (w : World) (v : Value) (hv : IntsIs w v ((R.take R.length).drop F)) => write_r v _ hall (by rw [List.length_drop, List.length_take]; omega) w hv)
  generalize writeL ((R.take R.length).drop F) = WR at *
  clear hall hch
  go_enter Tryd.func33, Tryd.ntmps33
  go_wp2_with fail
  refine (HC.out _).mono ?_
  rintro e w1 ⟨rfl, rfl⟩
  go_wp2_with fail
  refine (HM.out _).mono ?_
  rintro e w2 ⟨v, rfl, ho, g2⟩
  obtain ⟨ao, cap, he, hcap, _⟩ := ho.cap'
  subst he
  have hFc : F < cap := by omega
  have hx := ho.ints.sub.2
  obtain ⟨b, o, rfl, _⟩ := hx 0 (by omega)
  have HI := Lib.hid (HW.out w2 _ (ints_cut (cap := cap) hx F R.length hFE (Nat.le_refl _)))
  clear hx ho
  go_wp2_with fail
  refine HI.out.mono ?_
  rintro e w3 ⟨rfl, g3⟩
  go_wp2
  go_ret2
  exact ⟨by rw [HE.out]; rfl, Gr.trans g2 g3⟩
set_option maxRecDepth 100000 in
set_option maxHeartbeats 400000 in
theorem subr_pD2 (s : ByteArray) (hs : s.size ≤ 140000) (f n : Int) (_hf : -9223372036854775808 ≤ f ∧ f ≤ 9223372036854775807) (_hn : -9223372036854775808 ≤ n ∧ n ≤ 9223372036854775807) (h : chkE s.data.toList = 0) (w : World)
    (c1 : ¬ f < 0) (c2 : 0 ≤ f) (c3 : f ≤ ((runesL s.data.toList).length : Int)) (_d0 : ¬ n < 0) (_d1 : ¬ n < ((runesL s.data.toList).length : Int) - f) (_d2 : f = ((runesL s.data.toList).length : Int)) (_d3 : 0 < ((runesL s.data.toList).length : Int)) :
    Calls Tryd.prog 33 #[.string s, .int .i64 f, .int .i64 n] w (TxtQ (subT s.data.toList f n) w) := by
  have HC := Lib.hid (fun w => checked_r s (by omega) w)
  have HM := Lib.hid (fun w => runes_r s hs w)
  have hrl := runesL_len s.data.toList
  rw [sizeL] at hrl
  have HE := Lib.hid (subT_ok (n := n) (f) (((runesL s.data.toList).length : Int)) h (by unfold subF; rw [if_neg c1]) ⟨c2, c3⟩ (by unfold subE; rw [if_neg _d0, if_neg _d1]))
  have hch := runes_ch s.data.toList
  rw [h] at HC
  clear h
  generalize runesL s.data.toList = R at *
  have hnil : writeL ((R.take ((R.length : Int)).toNat).drop (f).toNat) = [] := by rw [List.drop_eq_nil_of_le (by rw [List.length_take]; omega)]; rfl
  rw [hnil] at HE
  have HW := Lib.hid (fun (w : World) (v : Value) (hv : IntsIs w v []) => write_r v [] rfl (by simp) w hv)
  clear hch hnil
  have hF : f = (((f).toNat : Nat) : Int) := by omega
  generalize (f).toNat = F at *
  have hFR : F = R.length := by omega
  have HFR := Lib.hid hFR
  have hFR1 : F ≤ R.length := by omega
  have hFR2 : R.length ≤ F := by omega
  clear hFR
  have HE2 := HE
  try rw [_d2] at HE2
  go_enter Tryd.func33, Tryd.ntmps33
  go_wp2_with fail
  refine (HC.out _).mono ?_
  rintro e w1 ⟨rfl, rfl⟩
  go_wp2_with fail
  refine (HM.out _).mono ?_
  rintro e w2 ⟨v, rfl, ho, g2⟩
  obtain ⟨ao, cap, he, hcap, _⟩ := ho.cap'
  subst he
  have hx := ho.ints.sub.2
  obtain ⟨b, o, rfl, _⟩ := hx 0 (by omega)
  clear hx ho
  go_wp2_with (go_at_call 56; refine (HW.out w2 _ (ints_empty (by omega))).mono ?_; rintro e w3 ⟨rfl, g3⟩)
  all_goals
    go_ret2
    exact ⟨by first | (rw [HE.out]; rfl) | (rw [HE2.out]; rfl), Gr.trans g2 g3⟩
set_option maxRecDepth 100000 in
set_option maxHeartbeats 400000 in
theorem subr_pZ (s : ByteArray) (hs : s.size ≤ 140000) (f n : Int) (_hf : -9223372036854775808 ≤ f ∧ f ≤ 9223372036854775807) (_hn : -9223372036854775808 ≤ n ∧ n ≤ 9223372036854775807) (h : chkE s.data.toList = 0) (w : World)
    (c1 : ¬ f < 0) (c2 : 0 ≤ f) (c3 : f ≤ ((runesL s.data.toList).length : Int)) (_d0 : ((runesL s.data.toList).length : Int) = 0) :
    Calls Tryd.prog 33 #[.string s, .int .i64 f, .int .i64 n] w (TxtQ (subT s.data.toList f n) w) := by
  have HC := Lib.hid (fun w => checked_r s (by omega) w)
  have HM := Lib.hid (fun w => runes_r s hs w)
  have hrl := runesL_len s.data.toList
  rw [sizeL] at hrl
  have HE := Lib.hid (subT_ok (n := n) (f) (((runesL s.data.toList).length : Int)) h (by unfold subF; rw [if_neg c1]) ⟨c2, c3⟩ (by unfold subE; split <;> (try split) <;> omega))
  have hch := runes_ch s.data.toList
  rw [h] at HC
  clear h
  generalize runesL s.data.toList = R at *
  have hR : R = [] := List.eq_nil_of_length_eq_zero (by omega)
  have hnil : writeL ((R.take ((R.length : Int)).toNat).drop (f).toNat) = [] := by rw [hR]; simp [writeL]
  rw [hnil] at HE
  clear hnil
  subst hR
  have hf0 : f = 0 := by omega
  subst hf0
  have HW := Lib.hid (fun (w : World) (v : Value) (hv : IntsIs w v []) => write_r v [] rfl (by simp) w hv)
  clear hch
  go_enter Tryd.func33, Tryd.ntmps33
  go_wp2_with fail
  refine (HC.out _).mono ?_
  rintro e w1 ⟨rfl, rfl⟩
  go_wp2_with fail
  refine (HM.out _).mono ?_
  rintro e w2 ⟨v, rfl, ho, g2⟩
  rcases ho.2 with ⟨rfl, _⟩ | ⟨g, cap, cur, rfl, _⟩
  all_goals
    clear ho
    go_wp2_with (go_at_call 56; refine (HW.out w2 _ ⟨_, _, rfl, fun k hk => absurd hk (Nat.not_lt_zero _)⟩).mono ?_; rintro e w3 ⟨rfl, g3⟩)
    all_goals
      go_ret2
      exact ⟨by rw [HE.out]; rfl, Gr.trans g2 g3⟩
end Go.Proofs.YtlacfknoanjlpaaDoor
