/- The reference's further, for every text. -/
import Derived.Test.YthdchkjipafmfaaDoorUpf
namespace Go.Proofs.YthdchkjipafmfaaDoor
open Go.RowKit Go.Shelf
set_option maxHeartbeats 1000000 in
theorem refFurther_num (s : ByteArray) (w : World) (hs : s.size ≤ 4096) (hc : cnt s.data.toList = false) : Calls Tryd.prog 65 #[.string s] w (WriPost (further s.data.toList) w) := by
  have HF := Lib.hid (further_num hc)
  have HC := Lib.hid (fun w => counts_any s w (by omega))
  rw [hc] at HC
  have hb := number_bd s.data.toList
  have HT := Lib.hid (fun w => ofText_any s w (by omega))
  generalize number s.data.toList = N at *
  clear hc
  go_enter Tryd.func65, Tryd.ntmps65
  go_wp2_with fail
  refine (HC.out _).mono ?_
  rintro e w1 ⟨rfl, g1⟩
  go_wp2_with fail
  refine (HT.out _).mono ?_
  rintro e w2 ⟨rfl, rfl⟩
  go_wp2_with fail
  refine (written_any _ (by omega) _).mono ?_
  rintro e w3 ⟨r, hr, rfl, g3⟩
  have Hr := Lib.hid hr
  clear hr
  go_wp2
  go_ret
  exact ⟨r, by rw [Hr.out, HF.out], rfl, g1.trans g3⟩
set_option maxRecDepth 8000 in
set_option maxHeartbeats 2000000 in
theorem refFurther_cnt (m : Nat) : ∀ (s : ByteArray) (w : World), s.size = m + 1 → m < 4096 → cnt s.data.toList = true → Calls Tryd.prog 65 #[.string s] w (WriPost (nextL s.data.toList) w) := by
  induction m with
  | zero =>
    intro s w hz hm hc
    have hl := last_eq s 0 hz
    rw [show (s.extract 0 0).data.toList = [] by simp, List.nil_append] at hl
    have hmem := lets_mem (by unfold cnt at hc; rw [Bool.and_eq_true] at hc; exact hc.2) s[0] (by rw [hl]; exact List.mem_cons_self)
    have HC := Lib.hid (fun w => counts_any s w (by omega))
    rw [hc] at HC
    have Hl := Lib.hid hl
    clear hl hc
    rcases wrap_cases s[0] hmem with ⟨k1, k3, k4, k5⟩ | ⟨k1, k2, k3, k4, k5⟩ | ⟨k1, k2, k3, k4, k5⟩ | ⟨k1, k2, k3, k4, k5⟩
    all_goals clear hmem
    · have HN : Hid (nextL s.data.toList = [97, 97]) := Lib.hid (by rw [Hl.out, nextL_one k4, k5])
      clear k4 k5
      go_enter Tryd.func65, Tryd.ntmps65
      go_wp2_with fail
      refine (HC.out _).mono ?_
      rintro e w1 ⟨rfl, g1⟩
      go_wp2
      go_ret
      exact ⟨_, by rw [HN.out]; rfl, rfl, g1⟩
    · have HN : Hid (nextL s.data.toList = [65, 65]) := Lib.hid (by rw [Hl.out, nextL_one k4, k5])
      clear k4 k5
      go_enter Tryd.func65, Tryd.ntmps65
      go_wp2_with fail
      refine (HC.out _).mono ?_
      rintro e w1 ⟨rfl, g1⟩
      go_wp2
      go_ret
      exact ⟨_, by rw [HN.out]; rfl, rfl, g1⟩
    · have HN : Hid (nextL s.data.toList = [49, 48]) := Lib.hid (by rw [Hl.out, nextL_one k4, k5])
      clear k4 k5
      go_enter Tryd.func65, Tryd.ntmps65
      go_wp2_with fail
      refine (HC.out _).mono ?_
      rintro e w1 ⟨rfl, g1⟩
      go_wp2
      go_ret
      exact ⟨_, by rw [HN.out]; rfl, rfl, g1⟩
    · have HN : Hid (nextL s.data.toList = [s[0] + 1]) := Lib.hid (by rw [Hl.out]; exact nextL_none (p := []) k4)
      clear k4
      have s2 := enc_size ((s[0].toNat : Int) + 1) (by omega) (by omega)
      have hx : (s.extract 0 0).size = 0 := by simp
      go_enter Tryd.func65, Tryd.ntmps65
      go_wp2_with fail
      refine (HC.out _).mono ?_
      rintro e w1 ⟨rfl, g1⟩
      go_wp2
      go_ret
      exact ⟨_, by rw [HN.out, enc_ascii _ (by omega) (by omega), inc_eq], rfl, g1⟩
  | succ m ih =>
    intro s w hz hm hc
    have ih' := Lib.hid (fun j (h : j = m + 1) (s : ByteArray) w (hz : s.size = j) => ih s w (by omega) (by omega))
    clear ih
    generalize hj : m + 1 = j at *
    have hj1 : 1 ≤ j := by omega
    have Hj := Lib.hid hj
    clear hj
    have hz3 : j < s.size := by omega
    have hl : s.data.toList = (s.extract 0 j).data.toList ++ [s[j]'hz3] := last_eq s j hz
    have hmem := lets_mem (by unfold cnt at hc; rw [Bool.and_eq_true] at hc; exact hc.2) (s[j]'hz3) (by rw [hl]; exact List.mem_append_right _ List.mem_cons_self)
    have HC := Lib.hid (fun w => counts_any s w (by omega))
    rw [hc] at HC
    have hps : (s.extract 0 j).size = j := by simp; omega
    have hpn : (s.extract 0 j).data.toList ≠ [] := fun h => by
      have := sizeL (s.extract 0 j); rw [h, hps] at this; have e : (0 : Nat) = j := this; omega
    have Hl := Lib.hid hl
    have HP : Hid (cnt (s.extract 0 j).data.toList = true) := Lib.hid (cnt_pre hpn (by rw [← hl]; exact hc))
    have IH := Lib.hid (fun w => ih'.out j rfl (s.extract 0 j) w hps HP.out)
    clear hl hc ih'
    rcases wrap_cases (s[j]'hz3) hmem with ⟨k1, k3, k4, k5⟩ | ⟨k1, k2, k3, k4, k5⟩ | ⟨k1, k2, k3, k4, k5⟩ | ⟨k1, k2, k3, k4, k5⟩
    case inr.inr.inr =>
      clear hmem
      have HN : Hid (nextL s.data.toList = (s.extract 0 j).data.toList ++ [(s[j]'hz3) + 1]) := Lib.hid (by rw [Hl.out]; exact nextL_none k4)
      clear k4 IH HP hpn
      have s2 := enc_size (((s[j]'hz3).toNat : Int) + 1) (by omega) (by omega)
      have hpb : (s.extract 0 j).size ≤ 4096 := by rw [hps]; omega
      have hz1 : (s.size : Int) - 1 = (j : Int) := by omega
      have hz2 : ((s.size : Int) == 1) = false := by simp; omega
      have hz4 : s.size ≤ 4097 := by omega
      have Hz := Lib.hid hz
      clear hps hz
      go_enter Tryd.func65, Tryd.ntmps65
      go_wp2_with fail
      refine (HC.out _).mono ?_
      rintro e w1 ⟨rfl, g1⟩
      go_wp2
      go_ret
      exact ⟨_, by rw [HN.out, app_data, enc_ascii _ (by omega) (by omega), inc_eq], rfl, g1⟩
    all_goals
      clear hmem
      have HN := Lib.hid (show nextL s.data.toList = nextL (s.extract 0 j).data.toList ++ [_] by rw [Hl.out]; exact nextL_some hpn k4)
      clear k4 k5 HP hpn
      go_enter Tryd.func65, Tryd.ntmps65
      go_wp2_with fail
      refine (HC.out _).mono ?_
      rintro e w1 ⟨rfl, g1⟩
      go_wp2_with fail
      refine (IH.out _).mono ?_
      rintro e w2 ⟨r, hr, rfl, g2⟩
      have hrs : r.size ≤ j + 1 := by
        have := nextL_len (s.extract 0 j).data.toList
        rw [← hr, sizeL, sizeL, hps] at this; exact this
      have Hr := Lib.hid hr
      clear hr
      go_wp2
      go_ret
      exact ⟨_, by rw [HN.out, app_data, Hr.out], rfl, g1.trans g2⟩
theorem refFurther_any (s : ByteArray) (w : World) (hs : s.size ≤ 4096) : Calls Tryd.prog 65 #[.string s] w (WriPost (further s.data.toList) w) := by
  rcases hc : cnt s.data.toList with _ | _
  · exact refFurther_num s w hs hc
  · rw [further_cnt hc]
    have hp : 0 < s.size := by
      rcases Nat.eq_zero_or_pos s.size with h | h
      · rw [nil_of_zero s (by omega)] at hc; cases hc
      · exact h
    exact refFurther_cnt (s.size - 1) s w (by omega) (by omega) hc
end Go.Proofs.YthdchkjipafmfaaDoor
