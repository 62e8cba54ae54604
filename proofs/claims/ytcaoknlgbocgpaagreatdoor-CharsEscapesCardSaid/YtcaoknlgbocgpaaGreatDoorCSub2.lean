/- The program's Sub. -/
import Derived.Test.YtcaoknlgbocgpaaGreatDoorCSub
import Derived.Test.YtcaoknlgbocgpaaGreatDoorCTxt
namespace Go.Proofs.YtcaoknlgbocgpaaGreatDoor
open Go.RowKit Go.Shelf
def subT (l : List UInt8) (f n : Int) : List UInt8 × Int :=
  if chkE l = 0 then (if 0 ≤ subF (runesL l).length f ∧ subF (runesL l).length f ≤ (runesL l).length then (writeL (subL (runesL l) (subF (runesL l).length f) n), 0) else ([], 1)) else ([], chkE l)
theorem subT_no {l : List UInt8} {f n : Int} (h : ¬ chkE l = 0) : subT l f n = ([], chkE l) := if_neg h
theorem subT_out {l : List UInt8} {f n : Int} (h : chkE l = 0) (h2 : ¬ (0 ≤ subF (runesL l).length f ∧ subF (runesL l).length f ≤ (runesL l).length)) : subT l f n = ([], 1) := (if_pos h).trans (if_neg h2)
theorem subT_ok {l : List UInt8} {f n : Int} (F E : Int) (h : chkE l = 0) (hF : subF (runesL l).length f = F) (h2 : 0 ≤ F ∧ F ≤ (runesL l).length) (hE : subE (runesL l).length F n = E) :
    subT l f n = (writeL (((runesL l).take E.toNat).drop F.toNat), 0) := by
  unfold subT subL
  rw [if_pos h, hF, if_pos h2, hE]
theorem offB_mono (l : List UInt8) {a b : Nat} (hab : a ≤ b) : offB l a ≤ offB l b := by
  have e : (runesL l).take a = ((runesL l).take b).take a := by rw [List.take_take, Nat.min_eq_left hab]
  unfold offB
  rw [e]
  have e2 : writeL ((runesL l).take b) = writeL (((runesL l).take b).take a) ++ writeL (((runesL l).take b).drop a) := by rw [← writeL_app, List.take_append_drop]
  rw [e2, List.length_append]; omega
/-- a part of a text -/
theorem cut_text (s : ByteArray) (h : writeL (runesL s.data.toList) = s.data.toList) {a b : Nat} (hab : a ≤ b) :
    s.extract (offB s.data.toList a) (offB s.data.toList b) = ⟨(writeL (((runesL s.data.toList).take b).drop a)).toArray⟩ := by
  refine barr_of ?_
  have e1 : (s.extract (offB s.data.toList a) (offB s.data.toList b)).data.toList = (s.data.toList.take (offB s.data.toList b)).drop (offB s.data.toList a) := by
    simp [List.drop_take]
  rw [e1, offB_take h b]
  generalize hc : (runesL s.data.toList).take b = c
  have e2 : offB s.data.toList a = (writeL (c.take a)).length := by
    unfold offB; rw [← hc, List.take_take, Nat.min_eq_left hab]
  rw [e2]
  have e3 : writeL c = writeL (c.take a) ++ writeL (c.drop a) := by rw [← writeL_app, List.take_append_drop]
  conv => lhs; rw [e3]
  exact List.drop_left
set_option maxRecDepth 100000 in
set_option maxHeartbeats 2000000 in
theorem sub_0 (s : ByteArray) (f n : Int) (hf : -9223372036854775808 ≤ f ∧ f ≤ 9223372036854775807) (hn : -9223372036854775808 ≤ n ∧ n ≤ 9223372036854775807) (h : chkE s.data.toList = 0) (w : World)
    (c1 : ¬ f < 0) (c2 : 0 ≤ f) (c3 : f ≤ ((runesL s.data.toList).length : Int)) (c4 : n < 0) (c5 : f < ((runesL s.data.toList).length : Int) + n) :
    Calls Tryz.prog 20 #[.string s, .int .i64 f, .int .i64 n] w (TxtQ (subT s.data.toList f n) w) := by
  have HC := Lib.hid (check1 s w _ 9 (0, 0) rfl)
  obtain ⟨h1, h2⟩ := chkE_zero h
  rw [sizeL] at h1
  have hwr := write_runes _ h2
  have hrl := runesL_len s.data.toList
  rw [sizeL] at hrl
  have HE := Lib.hid (subT_ok (n := n) (f) ((((runesL s.data.toList).length : Int) + n)) h (by unfold subF; rw [if_neg c1]) ⟨c2, c3⟩ (by unfold subE; rw [if_pos c4]; omega))
  have HM := Lib.hid (fun w => countV s h1 h2 w)
  have hab : (f).toNat ≤ ((((runesL s.data.toList).length : Int) + n)).toNat := by omega
  have HX := Lib.hid (cut_text s hwr hab)
  have hmo := offB_mono s.data.toList hab
  have hle := offB_le hwr ((((runesL s.data.toList).length : Int) + n)).toNat
  rw [sizeL] at hle
  have HA := Lib.hid (fun w => offset_p s h2 (f) (by omega) (by omega) w)
  have HB := Lib.hid (fun w => offset_p s h2 ((((runesL s.data.toList).length : Int) + n)) (by omega) (by omega) w)
  rw [h] at HC
  have hR4 : (runesL s.data.toList).length ≤ 4096 := by omega
  have hmx : max (((runesL s.data.toList).length : Int) + n) (f) = (((runesL s.data.toList).length : Int) + n) := by omega
  have Hmx := Lib.hid hmx
  clear hmx
  clear h h1 h2 hwr hab
  generalize writeL (((runesL s.data.toList).take ((((runesL s.data.toList).length : Int) + n)).toNat).drop (f).toNat) = WR at HE HX
  generalize offB s.data.toList (f).toNat = a at *
  generalize offB s.data.toList ((((runesL s.data.toList).length : Int) + n)).toNat = b at *
  generalize (runesL s.data.toList).length = R at *
  go_enter Tryz.func20, Tryz.ntmps20
  go_wp2_with fail
  refine HC.out.mono ?_
  rintro e w3 ⟨rfl, g3⟩
  have G := Lib.hid g3
  go_wp2_with fail
  refine (HM.out _).mono ?_
  rintro e w4 ⟨rfl, g4⟩
  have G := Lib.hid (Gr.trans G.out g4)
  go_wp2_with fail
  refine (HA.out _).mono ?_
  rintro e w5 ⟨rfl, g5⟩
  have G := Lib.hid (Gr.trans G.out g5)
  go_wp2_with fail
  rw [Hmx.out]
  refine (HB.out _).mono ?_
  rintro e w6 ⟨rfl, g6⟩
  have G := Lib.hid (Gr.trans G.out g6)
  go_wp2
  go_ret2
  exact ⟨by rw [HE.out]; show Ending.returned (Value.tuple #[.string (s.extract a b), _]) = _; rw [HX.out]; rfl, G.out⟩
set_option maxRecDepth 100000 in
set_option maxHeartbeats 2000000 in
theorem sub_1 (s : ByteArray) (f n : Int) (hf : -9223372036854775808 ≤ f ∧ f ≤ 9223372036854775807) (hn : -9223372036854775808 ≤ n ∧ n ≤ 9223372036854775807) (h : chkE s.data.toList = 0) (w : World)
    (c1 : ¬ f < 0) (c2 : 0 ≤ f) (c3 : f ≤ ((runesL s.data.toList).length : Int)) (c4 : n < 0) (c5 : ((runesL s.data.toList).length : Int) + n ≤ f) :
    Calls Tryz.prog 20 #[.string s, .int .i64 f, .int .i64 n] w (TxtQ (subT s.data.toList f n) w) := by
  have HC := Lib.hid (check1 s w _ 9 (0, 0) rfl)
  obtain ⟨h1, h2⟩ := chkE_zero h
  rw [sizeL] at h1
  have hwr := write_runes _ h2
  have hrl := runesL_len s.data.toList
  rw [sizeL] at hrl
  have HE := Lib.hid (subT_ok (n := n) (f) (f) h (by unfold subF; rw [if_neg c1]) ⟨c2, c3⟩ (by unfold subE; rw [if_pos c4]; omega))
  have HM := Lib.hid (fun w => countV s h1 h2 w)
  have hab : (f).toNat ≤ (f).toNat := by omega
  have hnil : writeL (((runesL s.data.toList).take (f).toNat).drop (f).toNat) = [] := by rw [List.drop_eq_nil_of_le (by rw [List.length_take]; exact Nat.min_le_left _ _)]; rfl
  rw [hnil] at HE
  have hmo := offB_mono s.data.toList hab
  have hle := offB_le hwr (f).toNat
  rw [sizeL] at hle
  have HA := Lib.hid (fun w => offset_p s h2 (f) (by omega) (by omega) w)
  rw [h] at HC
  have hR4 : (runesL s.data.toList).length ≤ 4096 := by omega
  have hmx : max (((runesL s.data.toList).length : Int) + n) (f) = f := by omega
  have Hmx := Lib.hid hmx
  clear hmx
  clear h h1 h2 hwr hab hnil hmo
  generalize offB s.data.toList (f).toNat = a at *
  generalize (runesL s.data.toList).length = R at *
  go_enter Tryz.func20, Tryz.ntmps20
  go_wp2_with fail
  refine HC.out.mono ?_
  rintro e w3 ⟨rfl, g3⟩
  have G := Lib.hid g3
  go_wp2_with fail
  refine (HM.out _).mono ?_
  rintro e w4 ⟨rfl, g4⟩
  have G := Lib.hid (Gr.trans G.out g4)
  go_wp2_with fail
  refine (HA.out _).mono ?_
  rintro e w5 ⟨rfl, g5⟩
  have G := Lib.hid (Gr.trans G.out g5)
  go_wp2_with fail
  rw [Hmx.out]
  refine (HA.out _).mono ?_
  rintro e w6 ⟨rfl, g6⟩
  have G := Lib.hid (Gr.trans G.out g6)
  go_wp2
  go_ret2
  exact ⟨by rw [HE.out]; rfl, G.out⟩
set_option maxRecDepth 100000 in
set_option maxHeartbeats 2000000 in
theorem sub_2 (s : ByteArray) (f n : Int) (hf : -9223372036854775808 ≤ f ∧ f ≤ 9223372036854775807) (hn : -9223372036854775808 ≤ n ∧ n ≤ 9223372036854775807) (h : chkE s.data.toList = 0) (w : World)
    (c1 : ¬ f < 0) (c2 : 0 ≤ f) (c3 : f ≤ ((runesL s.data.toList).length : Int)) (c4 : ¬ n < 0) (c5 : n < ((runesL s.data.toList).length : Int) - f) :
    Calls Tryz.prog 20 #[.string s, .int .i64 f, .int .i64 n] w (TxtQ (subT s.data.toList f n) w) := by
  have HC := Lib.hid (check1 s w _ 9 (0, 0) rfl)
  obtain ⟨h1, h2⟩ := chkE_zero h
  rw [sizeL] at h1
  have hwr := write_runes _ h2
  have hrl := runesL_len s.data.toList
  rw [sizeL] at hrl
  have HE := Lib.hid (subT_ok (n := n) (f) ((f + n)) h (by unfold subF; rw [if_neg c1]) ⟨c2, c3⟩ (by unfold subE; rw [if_neg c4, if_pos c5]))
  have HM := Lib.hid (fun w => countV s h1 h2 w)
  have hab : (f).toNat ≤ ((f + n)).toNat := by omega
  have HX := Lib.hid (cut_text s hwr hab)
  have hmo := offB_mono s.data.toList hab
  have hle := offB_le hwr ((f + n)).toNat
  rw [sizeL] at hle
  have HA := Lib.hid (fun w => offset_p s h2 (f) (by omega) (by omega) w)
  have HB := Lib.hid (fun w => offset_p s h2 ((f + n)) (by omega) (by omega) w)
  rw [h] at HC
  have hR4 : (runesL s.data.toList).length ≤ 4096 := by omega
  clear h h1 h2 hwr hab
  generalize writeL (((runesL s.data.toList).take ((f + n)).toNat).drop (f).toNat) = WR at HE HX
  generalize offB s.data.toList (f).toNat = a at *
  generalize offB s.data.toList ((f + n)).toNat = b at *
  generalize (runesL s.data.toList).length = R at *
  go_enter Tryz.func20, Tryz.ntmps20
  go_wp2_with fail
  refine HC.out.mono ?_
  rintro e w3 ⟨rfl, g3⟩
  have G := Lib.hid g3
  go_wp2_with fail
  refine (HM.out _).mono ?_
  rintro e w4 ⟨rfl, g4⟩
  have G := Lib.hid (Gr.trans G.out g4)
  go_wp2_with fail
  refine (HA.out _).mono ?_
  rintro e w5 ⟨rfl, g5⟩
  have G := Lib.hid (Gr.trans G.out g5)
  go_wp2_with fail
  refine (HB.out _).mono ?_
  rintro e w6 ⟨rfl, g6⟩
  have G := Lib.hid (Gr.trans G.out g6)
  go_wp2
  go_ret2
  exact ⟨by rw [HE.out]; show Ending.returned (Value.tuple #[.string (s.extract a b), _]) = _; rw [HX.out]; rfl, G.out⟩
set_option maxRecDepth 100000 in
set_option maxHeartbeats 2000000 in
theorem sub_3 (s : ByteArray) (f n : Int) (hf : -9223372036854775808 ≤ f ∧ f ≤ 9223372036854775807) (hn : -9223372036854775808 ≤ n ∧ n ≤ 9223372036854775807) (h : chkE s.data.toList = 0) (w : World)
    (c1 : ¬ f < 0) (c2 : 0 ≤ f) (c3 : f ≤ ((runesL s.data.toList).length : Int)) (c4 : ¬ n < 0) (c5 : ¬ n < ((runesL s.data.toList).length : Int) - f) :
    Calls Tryz.prog 20 #[.string s, .int .i64 f, .int .i64 n] w (TxtQ (subT s.data.toList f n) w) := by
  have HC := Lib.hid (check1 s w _ 9 (0, 0) rfl)
  obtain ⟨h1, h2⟩ := chkE_zero h
  rw [sizeL] at h1
  have hwr := write_runes _ h2
  have hrl := runesL_len s.data.toList
  rw [sizeL] at hrl
  have HE := Lib.hid (subT_ok (n := n) (f) (((runesL s.data.toList).length : Int)) h (by unfold subF; rw [if_neg c1]) ⟨c2, c3⟩ (by unfold subE; rw [if_neg c4, if_neg c5]))
  have HM := Lib.hid (fun w => countV s h1 h2 w)
  have hab : (f).toNat ≤ (((runesL s.data.toList).length : Int)).toNat := by omega
  have HX := Lib.hid (cut_text s hwr hab)
  have hmo := offB_mono s.data.toList hab
  have hle := offB_le hwr (((runesL s.data.toList).length : Int)).toNat
  rw [sizeL] at hle
  have HA := Lib.hid (fun w => offset_p s h2 (f) (by omega) (by omega) w)
  have HB := Lib.hid (fun w => offset_p s h2 (((runesL s.data.toList).length : Int)) (by omega) (by omega) w)
  rw [h] at HC
  have hR4 : (runesL s.data.toList).length ≤ 4096 := by omega
  clear h h1 h2 hwr hab
  generalize writeL (((runesL s.data.toList).take (((runesL s.data.toList).length : Int)).toNat).drop (f).toNat) = WR at HE HX
  generalize offB s.data.toList (f).toNat = a at *
  generalize offB s.data.toList (((runesL s.data.toList).length : Int)).toNat = b at *
  generalize (runesL s.data.toList).length = R at *
  go_enter Tryz.func20, Tryz.ntmps20
  go_wp2_with fail
  refine HC.out.mono ?_
  rintro e w3 ⟨rfl, g3⟩
  have G := Lib.hid g3
  go_wp2_with fail
  refine (HM.out _).mono ?_
  rintro e w4 ⟨rfl, g4⟩
  have G := Lib.hid (Gr.trans G.out g4)
  go_wp2_with fail
  refine (HA.out _).mono ?_
  rintro e w5 ⟨rfl, g5⟩
  have G := Lib.hid (Gr.trans G.out g5)
  go_wp2_with fail
  refine (HB.out _).mono ?_
  rintro e w6 ⟨rfl, g6⟩
  have G := Lib.hid (Gr.trans G.out g6)
  go_wp2
  go_ret2
  exact ⟨by rw [HE.out]; show Ending.returned (Value.tuple #[.string (s.extract a b), _]) = _; rw [HX.out]; rfl, G.out⟩
set_option maxRecDepth 100000 in
set_option maxHeartbeats 2000000 in
theorem sub_4 (s : ByteArray) (f n : Int) (hf : -9223372036854775808 ≤ f ∧ f ≤ 9223372036854775807) (hn : -9223372036854775808 ≤ n ∧ n ≤ 9223372036854775807) (h : chkE s.data.toList = 0) (w : World)
    (c1 : f < 0) (c2 : 0 ≤ (f + ((runesL s.data.toList).length : Int))) (c3 : (f + ((runesL s.data.toList).length : Int)) ≤ ((runesL s.data.toList).length : Int)) (c4 : n < 0) (c5 : (f + ((runesL s.data.toList).length : Int)) < ((runesL s.data.toList).length : Int) + n) :
    Calls Tryz.prog 20 #[.string s, .int .i64 f, .int .i64 n] w (TxtQ (subT s.data.toList f n) w) := by
  have HC := Lib.hid (check1 s w _ 9 (0, 0) rfl)
  obtain ⟨h1, h2⟩ := chkE_zero h
  rw [sizeL] at h1
  have hwr := write_runes _ h2
  have hrl := runesL_len s.data.toList
  rw [sizeL] at hrl
  have HE := Lib.hid (subT_ok (n := n) ((f + ((runesL s.data.toList).length : Int))) ((((runesL s.data.toList).length : Int) + n)) h (by unfold subF; rw [if_pos c1]) ⟨c2, c3⟩ (by unfold subE; rw [if_pos c4]; omega))
  have HM := Lib.hid (fun w => countV s h1 h2 w)
  have hab : ((f + ((runesL s.data.toList).length : Int))).toNat ≤ ((((runesL s.data.toList).length : Int) + n)).toNat := by omega
  have HX := Lib.hid (cut_text s hwr hab)
  have hmo := offB_mono s.data.toList hab
  have hle := offB_le hwr ((((runesL s.data.toList).length : Int) + n)).toNat
  rw [sizeL] at hle
  have HA := Lib.hid (fun w => offset_p s h2 ((f + ((runesL s.data.toList).length : Int))) (by omega) (by omega) w)
  have HB := Lib.hid (fun w => offset_p s h2 ((((runesL s.data.toList).length : Int) + n)) (by omega) (by omega) w)
  rw [h] at HC
  have hR4 : (runesL s.data.toList).length ≤ 4096 := by omega
  have hmx : max (((runesL s.data.toList).length : Int) + n) ((f + ((runesL s.data.toList).length : Int))) = (((runesL s.data.toList).length : Int) + n) := by omega
  have Hmx := Lib.hid hmx
  clear hmx
  clear h h1 h2 hwr hab
  generalize writeL (((runesL s.data.toList).take ((((runesL s.data.toList).length : Int) + n)).toNat).drop ((f + ((runesL s.data.toList).length : Int))).toNat) = WR at HE HX
  generalize offB s.data.toList ((f + ((runesL s.data.toList).length : Int))).toNat = a at *
  generalize offB s.data.toList ((((runesL s.data.toList).length : Int) + n)).toNat = b at *
  generalize (runesL s.data.toList).length = R at *
  go_enter Tryz.func20, Tryz.ntmps20
  go_wp2_with fail
  refine HC.out.mono ?_
  rintro e w3 ⟨rfl, g3⟩
  have G := Lib.hid g3
  go_wp2_with fail
  refine (HM.out _).mono ?_
  rintro e w4 ⟨rfl, g4⟩
  have G := Lib.hid (Gr.trans G.out g4)
  go_wp2_with fail
  refine (HA.out _).mono ?_
  rintro e w5 ⟨rfl, g5⟩
  have G := Lib.hid (Gr.trans G.out g5)
  go_wp2_with fail
  rw [Hmx.out]
  refine (HB.out _).mono ?_
  rintro e w6 ⟨rfl, g6⟩
  have G := Lib.hid (Gr.trans G.out g6)
  go_wp2
  go_ret2
  exact ⟨by rw [HE.out]; show Ending.returned (Value.tuple #[.string (s.extract a b), _]) = _; rw [HX.out]; rfl, G.out⟩
set_option maxRecDepth 100000 in
set_option maxHeartbeats 2000000 in
theorem sub_5 (s : ByteArray) (f n : Int) (hf : -9223372036854775808 ≤ f ∧ f ≤ 9223372036854775807) (hn : -9223372036854775808 ≤ n ∧ n ≤ 9223372036854775807) (h : chkE s.data.toList = 0) (w : World)
    (c1 : f < 0) (c2 : 0 ≤ (f + ((runesL s.data.toList).length : Int))) (c3 : (f + ((runesL s.data.toList).length : Int)) ≤ ((runesL s.data.toList).length : Int)) (c4 : n < 0) (c5 : ((runesL s.data.toList).length : Int) + n ≤ (f + ((runesL s.data.toList).length : Int))) :
    Calls Tryz.prog 20 #[.string s, .int .i64 f, .int .i64 n] w (TxtQ (subT s.data.toList f n) w) := by
  have HC := Lib.hid (check1 s w _ 9 (0, 0) rfl)
  obtain ⟨h1, h2⟩ := chkE_zero h
  rw [sizeL] at h1
  have hwr := write_runes _ h2
  have hrl := runesL_len s.data.toList
  rw [sizeL] at hrl
  have HE := Lib.hid (subT_ok (n := n) ((f + ((runesL s.data.toList).length : Int))) ((f + ((runesL s.data.toList).length : Int))) h (by unfold subF; rw [if_pos c1]) ⟨c2, c3⟩ (by unfold subE; rw [if_pos c4]; omega))
  have HM := Lib.hid (fun w => countV s h1 h2 w)
  have hab : ((f + ((runesL s.data.toList).length : Int))).toNat ≤ ((f + ((runesL s.data.toList).length : Int))).toNat := by omega
  have hnil : writeL (((runesL s.data.toList).take ((f + ((runesL s.data.toList).length : Int))).toNat).drop ((f + ((runesL s.data.toList).length : Int))).toNat) = [] := by rw [List.drop_eq_nil_of_le (by rw [List.length_take]; exact Nat.min_le_left _ _)]; rfl
  rw [hnil] at HE
  have hmo := offB_mono s.data.toList hab
  have hle := offB_le hwr ((f + ((runesL s.data.toList).length : Int))).toNat
  rw [sizeL] at hle
  have HA := Lib.hid (fun w => offset_p s h2 ((f + ((runesL s.data.toList).length : Int))) (by omega) (by omega) w)
  rw [h] at HC
  have hR4 : (runesL s.data.toList).length ≤ 4096 := by omega
  have hmx : max (((runesL s.data.toList).length : Int) + n) ((f + ((runesL s.data.toList).length : Int))) = (f + ((runesL s.data.toList).length : Int)) := by omega
  have Hmx := Lib.hid hmx
  clear hmx
  clear h h1 h2 hwr hab hnil hmo
  generalize offB s.data.toList ((f + ((runesL s.data.toList).length : Int))).toNat = a at *
  generalize (runesL s.data.toList).length = R at *
  go_enter Tryz.func20, Tryz.ntmps20
  go_wp2_with fail
  refine HC.out.mono ?_
  rintro e w3 ⟨rfl, g3⟩
  have G := Lib.hid g3
  go_wp2_with fail
  refine (HM.out _).mono ?_
  rintro e w4 ⟨rfl, g4⟩
  have G := Lib.hid (Gr.trans G.out g4)
  go_wp2_with fail
  refine (HA.out _).mono ?_
  rintro e w5 ⟨rfl, g5⟩
  have G := Lib.hid (Gr.trans G.out g5)
  go_wp2_with fail
  rw [Hmx.out]
  refine (HA.out _).mono ?_
  rintro e w6 ⟨rfl, g6⟩
  have G := Lib.hid (Gr.trans G.out g6)
  go_wp2
  go_ret2
  exact ⟨by rw [HE.out]; rfl, G.out⟩
set_option maxRecDepth 100000 in
set_option maxHeartbeats 2000000 in
theorem sub_6 (s : ByteArray) (f n : Int) (hf : -9223372036854775808 ≤ f ∧ f ≤ 9223372036854775807) (hn : -9223372036854775808 ≤ n ∧ n ≤ 9223372036854775807) (h : chkE s.data.toList = 0) (w : World)
    (c1 : f < 0) (c2 : 0 ≤ (f + ((runesL s.data.toList).length : Int))) (c3 : (f + ((runesL s.data.toList).length : Int)) ≤ ((runesL s.data.toList).length : Int)) (c4 : ¬ n < 0) (c5 : n < ((runesL s.data.toList).length : Int) - (f + ((runesL s.data.toList).length : Int))) :
    Calls Tryz.prog 20 #[.string s, .int .i64 f, .int .i64 n] w (TxtQ (subT s.data.toList f n) w) := by
  have HC := Lib.hid (check1 s w _ 9 (0, 0) rfl)
  obtain ⟨h1, h2⟩ := chkE_zero h
  rw [sizeL] at h1
  have hwr := write_runes _ h2
  have hrl := runesL_len s.data.toList
  rw [sizeL] at hrl
  have HE := Lib.hid (subT_ok (n := n) ((f + ((runesL s.data.toList).length : Int))) (((f + ((runesL s.data.toList).length : Int)) + n)) h (by unfold subF; rw [if_pos c1]) ⟨c2, c3⟩ (by unfold subE; rw [if_neg c4, if_pos c5]))
  have HM := Lib.hid (fun w => countV s h1 h2 w)
  have hab : ((f + ((runesL s.data.toList).length : Int))).toNat ≤ (((f + ((runesL s.data.toList).length : Int)) + n)).toNat := by omega
  have HX := Lib.hid (cut_text s hwr hab)
  have hmo := offB_mono s.data.toList hab
  have hle := offB_le hwr (((f + ((runesL s.data.toList).length : Int)) + n)).toNat
  rw [sizeL] at hle
  have HA := Lib.hid (fun w => offset_p s h2 ((f + ((runesL s.data.toList).length : Int))) (by omega) (by omega) w)
  have HB := Lib.hid (fun w => offset_p s h2 (((f + ((runesL s.data.toList).length : Int)) + n)) (by omega) (by omega) w)
  rw [h] at HC
  have hR4 : (runesL s.data.toList).length ≤ 4096 := by omega
  clear h h1 h2 hwr hab
  generalize writeL (((runesL s.data.toList).take (((f + ((runesL s.data.toList).length : Int)) + n)).toNat).drop ((f + ((runesL s.data.toList).length : Int))).toNat) = WR at HE HX
  generalize offB s.data.toList ((f + ((runesL s.data.toList).length : Int))).toNat = a at *
  generalize offB s.data.toList (((f + ((runesL s.data.toList).length : Int)) + n)).toNat = b at *
  generalize (runesL s.data.toList).length = R at *
  go_enter Tryz.func20, Tryz.ntmps20
  go_wp2_with fail
  refine HC.out.mono ?_
  rintro e w3 ⟨rfl, g3⟩
  have G := Lib.hid g3
  go_wp2_with fail
  refine (HM.out _).mono ?_
  rintro e w4 ⟨rfl, g4⟩
  have G := Lib.hid (Gr.trans G.out g4)
  go_wp2_with fail
  refine (HA.out _).mono ?_
  rintro e w5 ⟨rfl, g5⟩
  have G := Lib.hid (Gr.trans G.out g5)
  go_wp2_with fail
  refine (HB.out _).mono ?_
  rintro e w6 ⟨rfl, g6⟩
  have G := Lib.hid (Gr.trans G.out g6)
  go_wp2
  go_ret2
  exact ⟨by rw [HE.out]; show Ending.returned (Value.tuple #[.string (s.extract a b), _]) = _; rw [HX.out]; rfl, G.out⟩
set_option maxRecDepth 100000 in
set_option maxHeartbeats 2000000 in
theorem sub_7 (s : ByteArray) (f n : Int) (hf : -9223372036854775808 ≤ f ∧ f ≤ 9223372036854775807) (hn : -9223372036854775808 ≤ n ∧ n ≤ 9223372036854775807) (h : chkE s.data.toList = 0) (w : World)
    (c1 : f < 0) (c2 : 0 ≤ (f + ((runesL s.data.toList).length : Int))) (c3 : (f + ((runesL s.data.toList).length : Int)) ≤ ((runesL s.data.toList).length : Int)) (c4 : ¬ n < 0) (c5 : ¬ n < ((runesL s.data.toList).length : Int) - (f + ((runesL s.data.toList).length : Int))) :
    Calls Tryz.prog 20 #[.string s, .int .i64 f, .int .i64 n] w (TxtQ (subT s.data.toList f n) w) := by
  have HC := Lib.hid (check1 s w _ 9 (0, 0) rfl)
  obtain ⟨h1, h2⟩ := chkE_zero h
  rw [sizeL] at h1
  have hwr := write_runes _ h2
  have hrl := runesL_len s.data.toList
  rw [sizeL] at hrl
  have HE := Lib.hid (subT_ok (n := n) ((f + ((runesL s.data.toList).length : Int))) (((runesL s.data.toList).length : Int)) h (by unfold subF; rw [if_pos c1]) ⟨c2, c3⟩ (by unfold subE; rw [if_neg c4, if_neg c5]))
  have HM := Lib.hid (fun w => countV s h1 h2 w)
  have hab : ((f + ((runesL s.data.toList).length : Int))).toNat ≤ (((runesL s.data.toList).length : Int)).toNat := by omega
  have HX := Lib.hid (cut_text s hwr hab)
  have hmo := offB_mono s.data.toList hab
  have hle := offB_le hwr (((runesL s.data.toList).length : Int)).toNat
  rw [sizeL] at hle
  have HA := Lib.hid (fun w => offset_p s h2 ((f + ((runesL s.data.toList).length : Int))) (by omega) (by omega) w)
  have HB := Lib.hid (fun w => offset_p s h2 (((runesL s.data.toList).length : Int)) (by omega) (by omega) w)
  rw [h] at HC
  have hR4 : (runesL s.data.toList).length ≤ 4096 := by omega
  clear h h1 h2 hwr hab
  generalize writeL (((runesL s.data.toList).take (((runesL s.data.toList).length : Int)).toNat).drop ((f + ((runesL s.data.toList).length : Int))).toNat) = WR at HE HX
  generalize offB s.data.toList ((f + ((runesL s.data.toList).length : Int))).toNat = a at *
  generalize offB s.data.toList (((runesL s.data.toList).length : Int)).toNat = b at *
  generalize (runesL s.data.toList).length = R at *
  go_enter Tryz.func20, Tryz.ntmps20
  go_wp2_with fail
  refine HC.out.mono ?_
  rintro e w3 ⟨rfl, g3⟩
  have G := Lib.hid g3
  go_wp2_with fail
  refine (HM.out _).mono ?_
  rintro e w4 ⟨rfl, g4⟩
  have G := Lib.hid (Gr.trans G.out g4)
  go_wp2_with fail
  refine (HA.out _).mono ?_
  rintro e w5 ⟨rfl, g5⟩
  have G := Lib.hid (Gr.trans G.out g5)
  go_wp2_with fail
  refine (HB.out _).mono ?_
  rintro e w6 ⟨rfl, g6⟩
  have G := Lib.hid (Gr.trans G.out g6)
  go_wp2
  go_ret2
  exact ⟨by rw [HE.out]; show Ending.returned (Value.tuple #[.string (s.extract a b), _]) = _; rw [HX.out]; rfl, G.out⟩
end Go.Proofs.YtcaoknlgbocgpaaGreatDoor
