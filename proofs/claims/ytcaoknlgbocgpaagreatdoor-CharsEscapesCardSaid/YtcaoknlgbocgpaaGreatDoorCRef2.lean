/- The reference's reading of characters: first, Valid, Checked, both, sized. -/
import Derived.Test.YtcaoknlgbocgpaaGreatDoorCRef1
namespace Go.Proofs.YtcaoknlgbocgpaaGreatDoor
open Go.RowKit Go.Shelf
set_option maxHeartbeats 4000000 in
set_option maxRecDepth 100000 in
/-- the first character of a text -/
theorem first_r (s : ByteArray) (w : World) : Calls Tryz.prog 51 #[.string s] w fun e w' => e = .returned (.tuple #[.int .i64 (firstL s.data.toList).1, .int .i64 (firstL s.data.toList).2]) ∧ w = w' := by
  by_cases h0 : 0 < s.size
  · have hd : s.data.toList = s[0] :: s.data.toList.drop 1 := drop_at s 0 h0
    have hF : firstL s.data.toList = firstC s[0].toNat (s.data.toList.drop 1) := by
      conv => lhs; rw [hd]
      rfl
    have hb := s[0].toNat_lt
    by_cases h1 : (s[0].toNat : Int) < 128
    · have HF : Hid (firstL s.data.toList = ((s[0].toNat : Int), 1)) := Lib.hid (by rw [hF, firstC_one h1])
      clear hd hF
      go_enter Tryz.func51, Tryz.ntmps51
      go_wp2
      go_ret2
      exact ⟨by rw [HF.out]; rfl, rfl⟩
    · have hlen : (s.data.toList.drop 1).length + 1 = s.size := by rw [List.length_drop, sizeL]; omega
      by_cases hn : leadN s[0].toNat = 0 ∨ (s.data.toList.drop 1).length + 1 < leadN s[0].toNat
      · have HF : Hid (firstL s.data.toList = (0, 0)) := Lib.hid (by rw [hF, firstC_no h1 hn])
        rw [hlen] at hn
        clear hd hF hlen
        have hl := lead_cases (s[0].toNat : Int)
        rcases hl with ⟨b1, b2, f1, _, _⟩ | ⟨b1, b2, f1, _, _⟩ | ⟨b1, b2, f1, _, _⟩ | ⟨b1, f1⟩ | ⟨b1, f1⟩
        all_goals
          rw [f1] at hn
          clear f1
          go_enter Tryz.func51, Tryz.ntmps51
          go_wp2
          go_ret2
          exact ⟨by rw [HF.out]; rfl, rfl⟩
      · rw [hF, firstC_made h1 hn]
        rw [hlen] at hn
        refine first_lead s _ _ _ h0 (by omega) w ?_
        have hl := lead_cases (s[0].toNat : Int)
        omega
  · have HF : Hid (firstL s.data.toList = (0, 0)) := Lib.hid (by rw [nil_of_zero s h0]; rfl)
    have hs0 : s.size = 0 := by omega
    go_enter Tryz.func51, Tryz.ntmps51
    go_wp2
    go_ret2
    exact ⟨by rw [HF.out]; rfl, rfl⟩
set_option maxRecDepth 100000 in
/-- what first says of the rest of a text -/
theorem valid_r (s : ByteArray) (hs : s.size ≤ 140737488351232) (w : World) : Calls Tryz.prog 50 #[.string s] w fun e w' => e = .returned (.tuple #[.int .i64 (validL s.data.toList).1, .bool (validL s.data.toList).2]) ∧ w = w' := by
  have H0 : Hid (validR (validL s.data.toList) s.data.toList 0) := Lib.hid (by unfold validR; simp)
  generalize validL s.data.toList = Q at *
  go_enter Tryz.func50, Tryz.ntmps50
  go_wp2_with fail
  go_loopw [4] (fun iv wr => w = wr ∧ ∃ k : Nat, k ≤ s.size ∧ iv = .int .i64 k ∧ Hid (validR Q s.data.toList k)) (fun iv _ => s.size - (intOf iv).toNat)
  case atStart => exact ⟨rfl, 0, Nat.zero_le _, rfl, H0⟩
  case round =>
    obtain ⟨rfl, k, hk, rfl, HR⟩ := hrel
    clear H0
    by_cases hp : k < s.size
    · have hpL : k < s.data.toList.length := by rw [sizeL]; exact hp
      have hF := fun w => first_r (s.extract k s.size) w
      rw [dropE] at hF
      have hlen := firstL_len (s.data.toList.drop k)
      rw [List.length_drop, sizeL] at hlen
      by_cases hn : (firstL (s.data.toList.drop k)).2 = 0
      · have HE := Lib.hid (validR_no HR.out hpL hn)
        rw [hn] at hF
        have HF := Lib.hid hF
        clear hF hn HR hlen
        go_wp2_with (go_at_call 51; refine (HF.out _).mono ?_; rintro e w3 ⟨rfl, rfl⟩)
        go_ret2
        exact ⟨by rw [HE.out]; rfl, rfl⟩
      · have HR2 := Lib.hid (validR_on HR.out hpL hn)
        have HF := Lib.hid hF
        have hnb : (((firstL (s.data.toList.drop k)).2 : Int) == 0) = false := beq_eq_false_iff_ne.2 (by omega)
        clear hF HR
        generalize (firstL (s.data.toList.drop k)).2 = n at *
        go_wp2_with (go_at_call 51; refine (HF.out _).mono ?_; rintro e w3 ⟨rfl, rfl⟩)
        go_roundw
        case rel => exact ⟨by trivial, k + n, by omega, by go_num, HR2⟩
        case measure => simp [intOf]; omega
    · have HE := Lib.hid (validR_end HR.out (by rw [sizeL]; exact hp))
      obtain rfl : k = s.size := by omega
      clear HR
      go_wp2
      go_ret2
      exact ⟨by rw [HE.out]; rfl, rfl⟩
/-- what is wrong with a text -/
def chkE (l : List UInt8) : Int := if 4096 < l.length then 3 else if (validL l).2 = true then 0 else 2
theorem chkE_long {l : List UInt8} (h : 4096 < l.length) : chkE l = 3 := if_pos h
theorem chkE_bad {l : List UInt8} (h : ¬ 4096 < l.length) (hv : (validL l).2 = false) : chkE l = 2 := by unfold chkE; rw [if_neg h, hv]; rfl
theorem chkE_ok {l : List UInt8} (h : ¬ 4096 < l.length) (hv : (validL l).2 = true) : chkE l = 0 := by unfold chkE; rw [if_neg h, hv]; rfl
theorem chkE_zero {l : List UInt8} (h : chkE l = 0) : l.length ≤ 4096 ∧ (validL l).2 = true := by
  by_cases h1 : 4096 < l.length
  · rw [chkE_long h1] at h; cases h
  · cases hv : (validL l).2
    · rw [chkE_bad h1 hv] at h; cases h
    · exact ⟨by omega, rfl⟩
theorem chkE_bd (l : List UInt8) : 0 ≤ chkE l ∧ chkE l ≤ 3 := by
  unfold chkE
  split
  · decide
  · split <;> decide
set_option maxRecDepth 100000 in
theorem checked_r (s : ByteArray) (hs : s.size ≤ 140737488351232) (w : World) : Calls Tryz.prog 22 #[.string s] w fun e w' => e = .returned (.int .i64 (chkE s.data.toList)) ∧ w = w' := by
  have HV := Lib.hid (fun w => valid_r s hs w)
  by_cases h1 : 4096 < s.size
  · have HE := Lib.hid (chkE_long (l := s.data.toList) (by rw [sizeL]; exact h1))
    go_enter Tryz.func22, Tryz.ntmps22
    go_wp2
    go_ret
    exact ⟨by rw [HE.out]; rfl, rfl⟩
  · cases hv : (validL s.data.toList).2
    · have HE := Lib.hid (chkE_bad (l := s.data.toList) (by rw [sizeL]; exact h1) hv)
      rw [hv] at HV
      go_enter Tryz.func22, Tryz.ntmps22
      go_wp2_with (go_at_call 50; refine (HV.out _).mono ?_; rintro e w3 ⟨rfl, rfl⟩)
      go_ret
      exact ⟨by rw [HE.out]; rfl, rfl⟩
    · have HE := Lib.hid (chkE_ok (l := s.data.toList) (by rw [sizeL]; exact h1) hv)
      rw [hv] at HV
      go_enter Tryz.func22, Tryz.ntmps22
      go_wp2_with (go_at_call 50; refine (HV.out _).mono ?_; rintro e w3 ⟨rfl, rfl⟩)
      go_ret
      exact ⟨by rw [HE.out]; rfl, rfl⟩
end Go.Proofs.YtcaoknlgbocgpaaGreatDoor
