/- The laws on texts read, and on numbers written. -/
import Derived.Test.YtlacfknoanjlpaaDoorCKnow
import Derived.Test.YtlacfknoanjlpaaDoorCRev
namespace Go.Proofs.YtlacfknoanjlpaaDoor
open Go.RowKit Go.Shelf
theorem bytes_own (s : ByteArray) : (⟨s.data.toList.toArray⟩ : ByteArray) = s := (barr_of rfl).symm
set_option maxRecDepth 100000 in
set_option maxHeartbeats 1000000 in
theorem law_reads (s : ByteArray) (hs : s.size ≤ 140737488351232) (w : World) (hT : Tabs w) : Calls Tryd.prog 3 #[.string s] w fun e w' => e = .returned (.bool true) ∧ Gr w w' := by
  have HK := Lib.hid (fun w (h : Tabs w) => known_any w h)
  have HT := Lib.hid hT
  clear hT
  by_cases h1 : 20000 < s.size
  · go_enter Tryd.func3, Tryd.ntmps3
    go_wp2_with fail
    refine (HK.out _ HT.out).mono ?_
    rintro e w1 ⟨rfl, g1⟩
    go_wp2
    go_ret
    exact ⟨rfl, g1⟩
  · have HVR := Lib.hid (fun w => valid_r s hs w)
    have HVP := Lib.hid (fun w => valid_p s w)
    have HR := Lib.hid (fun w => pointsF_r s (by omega) w)
    have HP := Lib.hid (fun w => pointsF_p s w)
    have hrl := runesL_len s.data.toList
    rw [sizeL] at hrl
    by_cases h : chkE s.data.toList = 0
    · obtain ⟨k1, k2⟩ := chkE_zero h
      have hwr := write_runes _ k2
      have htx : txtL (runesL s.data.toList) = (s.data.toList, 0) := by
        rw [txtL_ok (runes_ch _), hwr]; unfold sizE; rw [if_neg (by omega)]
      rw [ansP_ok h] at HR HP
      clear h hwr k1 k2
      generalize (validL s.data.toList).1 = n at *
      generalize (validL s.data.toList).2 = ok at *
      generalize runesL s.data.toList = cs at *
      have HTX := Lib.hid (fun (w : World) (v : Value) (hv : IntsIs w v cs) => (text_p v cs (by omega) w hv : Calls Tryd.prog 17 #[v] w (TxtQ (txtL cs) w)))
      rw [htx] at HTX
      have HTX2 : Hid (∀ (w : World) (v : Value), IntsIs w v cs → Calls Tryd.prog 17 #[v] w fun e w' => e = .returned (.tuple #[.string s, .int .i64 0]) ∧ Gr w w') := Lib.hid (fun w v hv => (HTX.out w v hv).mono fun e w' ⟨he, hg⟩ => ⟨by rw [he]; try (show Ending.returned (.tuple #[.string ⟨s.data.toList.toArray⟩, _]) = _; rw [bytes_own]), hg⟩)
      clear htx HTX
      go_enter Tryd.func3, Tryd.ntmps3
      go_wp2_with fail
      refine (HVR.out _).mono ?_
      rintro e w1 ⟨rfl, rfl⟩
      go_wp2_with fail
      refine (HR.out _).mono ?_
      rintro e w2 ⟨vb, rfl, hb, g2⟩
      have Hb := Lib.hid hb
      clear hb
      go_wp2_with fail
      refine (HVP.out _).mono ?_
      rintro e w3 ⟨rfl, g3⟩
      go_wp2_with fail
      refine (HP.out _).mono ?_
      rintro e w4 ⟨va, rfl, ha, g4⟩
      have Ha := Lib.hid ha
      clear ha
      have HS := Lib.hid (same_r va vb cs cs (by omega) w4 Ha.out.ints (Hb.out.gr (Gr.trans g3 g4)).ints)
      rw [show decide (cs = cs) = true by simp] at HS
      have G := Lib.hid (Gr.trans g2 (Gr.trans g3 g4))
      go_wp2_with fail
      refine HS.out.mono ?_
      rintro e w5 ⟨rfl, g5⟩
      have HX := Lib.hid (HTX2.out w5 va (Ha.out.gr g5).ints)
      have G := Lib.hid (Gr.trans G.out g5)
      go_wp2_with fail
      refine HX.out.mono ?_
      rintro e w6 ⟨rfl, g6⟩
      have G := Lib.hid (Gr.trans G.out g6)
      go_wp2_with fail
      refine (HK.out _ (HT.out.gr G.out)).mono ?_
      rintro e w7 ⟨rfl, g7⟩
      go_wp2
      go_ret
      exact ⟨by simp, Gr.trans G.out g7⟩
    · have hne := h
      have hb0 : (chkE s.data.toList == 0) = false := beq_eq_false_iff_ne.2 h
      rw [ansP_no h] at HR HP
      clear h hrl
      generalize chkE s.data.toList = E at *
      generalize (validL s.data.toList).1 = n at *
      generalize (validL s.data.toList).2 = ok at *
      have HTX := Lib.hid (fun (w : World) (v : Value) (hv : IntsIs w v []) => (text_p v [] (by simp) w hv : Calls Tryd.prog 17 #[v] w (TxtQ (txtL []) w)))
      rw [show txtL [] = ([], 0) by decide] at HTX
      go_enter Tryd.func3, Tryd.ntmps3
      go_wp2_with fail
      refine (HVR.out _).mono ?_
      rintro e w1 ⟨rfl, rfl⟩
      go_wp2_with fail
      refine (HR.out _).mono ?_
      rintro e w2 ⟨vb, rfl, hb, g2⟩
      have Hb := Lib.hid hb
      clear hb
      go_wp2_with fail
      refine (HVP.out _).mono ?_
      rintro e w3 ⟨rfl, g3⟩
      go_wp2_with fail
      refine (HP.out _).mono ?_
      rintro e w4 ⟨va, rfl, ha, g4⟩
      have Ha := Lib.hid ha
      clear ha
      have HS := Lib.hid (same_r va vb [] [] (by simp) w4 Ha.out.ints (Hb.out.gr (Gr.trans g3 g4)).ints)
      rw [show decide (([] : List Int) = []) = true by decide] at HS
      have G := Lib.hid (Gr.trans g2 (Gr.trans g3 g4))
      go_wp2_with fail
      refine HS.out.mono ?_
      rintro e w5 ⟨rfl, g5⟩
      have HX := Lib.hid (HTX.out w5 va (Ha.out.gr g5).ints)
      have G := Lib.hid (Gr.trans G.out g5)
      go_wp2_with fail
      refine HX.out.mono ?_
      rintro e w6 ⟨rfl, g6⟩
      have G := Lib.hid (Gr.trans G.out g6)
      go_wp2_with fail
      refine (HK.out _ (HT.out.gr G.out)).mono ?_
      rintro e w7 ⟨rfl, g7⟩
      go_wp2
      go_ret
      exact ⟨by simp, Gr.trans G.out g7⟩
set_option maxRecDepth 100000 in
set_option maxHeartbeats 1000000 in
theorem law_writes (v : Value) (l : List Int) (w : World) (hv : IntsIs w v l) (hT : Tabs w) : Calls Tryd.prog 4 #[v] w fun e w' => e = .returned (.bool true) ∧ Gr w w' := by
  have HK := Lib.hid (fun w (h : Tabs w) => known_any w h)
  have HT := Lib.hid hT
  have Hv := Lib.hid hv
  obtain ⟨ao, cap, rfl, _⟩ := hv
  clear hT
  by_cases h1 : 20000 < l.length
  · go_enter Tryd.func4, Tryd.ntmps4
    go_wp2_with fail
    refine (HK.out _ HT.out).mono ?_
    rintro e w1 ⟨rfl, g1⟩
    go_wp2
    go_ret
    exact ⟨rfl, g1⟩
  · have HR := Lib.hid (text_r _ l (by omega) w Hv.out)
    have HP := Lib.hid (fun w (hv : IntsIs w (.slice ao l.length cap) l) => text_p _ l (by omega) w hv)
    have HQ := Lib.hid (fun w => pointsF_p ⟨(txtL l).1.toArray⟩ w)
    rw [show (⟨(txtL l).1.toArray⟩ : ByteArray).data.toList = (txtL l).1 by simp] at HQ
    by_cases h : (txtL l).2 = 0
    · have hX : ansP (txtL l).1 = (l, 0) := by
        cases ha : l.all isCh
        · rw [txtL_no ha] at h; cases h
        · rw [txtL_ok ha] at h ⊢
          by_cases hb : 4096 < (writeL l).length
          · unfold sizE at h; rw [if_pos hb] at h; cases h
          · unfold sizE; rw [if_neg hb]
            show ansP (writeL l) = _
            rw [ansP_ok (chk_write ha (by omega)), (runes_write _ ha).1]
      rw [hX] at HQ
      clear hX
      generalize htx : txtL l = X at *
      obtain ⟨x1, x2⟩ := X
      clear htx
      have h' : x2 = 0 := h
      subst h'
      clear h
      go_enter Tryd.func4, Tryd.ntmps4
      go_wp2_with fail
      refine HR.out.mono ?_
      rintro e w1 ⟨rfl, g1⟩
      have HP1 := Lib.hid (HP.out w1 (Hv.out.gr g1))
      go_wp2_with fail
      refine HP1.out.mono ?_
      rintro e w2 ⟨rfl, g2⟩
      go_wp2_with fail
      refine (HQ.out _).mono ?_
      rintro e w3 ⟨vm, rfl, hm, g3⟩
      have G := Lib.hid (Gr.trans g1 (Gr.trans g2 g3))
      have HS := Lib.hid (same_r vm (.slice ao l.length cap) l l (by omega) w3 hm.ints (Hv.out.gr G.out))
      rw [show decide (l = l) = true by simp] at HS
      clear hm
      go_wp2_with fail
      refine HS.out.mono ?_
      rintro e w4 ⟨rfl, g4⟩
      have G := Lib.hid (Gr.trans G.out g4)
      go_wp2_with fail
      refine (HK.out _ (HT.out.gr G.out)).mono ?_
      rintro e w5 ⟨rfl, g5⟩
      go_wp2
      go_ret
      exact ⟨by simp, Gr.trans G.out g5⟩
    · have hne := h
      have hb0 : ((txtL l).2 == 0) = false := beq_eq_false_iff_ne.2 h
      clear h
      generalize txtL l = X at *
      obtain ⟨x1, x2⟩ := X
      generalize ansP _ = Y at *
      obtain ⟨y1, y2⟩ := Y
      go_enter Tryd.func4, Tryd.ntmps4
      go_wp2_with fail
      refine HR.out.mono ?_
      rintro e w1 ⟨rfl, g1⟩
      have HP1 := Lib.hid (HP.out w1 (Hv.out.gr g1))
      go_wp2_with fail
      refine HP1.out.mono ?_
      rintro e w2 ⟨rfl, g2⟩
      go_wp2_with fail
      refine (HQ.out _).mono ?_
      rintro e w3 ⟨vm, rfl, hm, g3⟩
      have G := Lib.hid (Gr.trans g1 (Gr.trans g2 g3))
      clear hm
      go_wp2_with fail
      refine (HK.out _ (HT.out.gr G.out)).mono ?_
      rintro e w5 ⟨rfl, g5⟩
      go_wp2
      go_ret
      exact ⟨by simp, Gr.trans G.out g5⟩
end Go.Proofs.YtlacfknoanjlpaaDoor
