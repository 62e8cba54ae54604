/- The powers of package num. -/
import Derived.Test.YthdchkjipafmfaaDoorComp
namespace Go.Proofs.YthdchkjipafmfaaDoor
open Go.RowKit

set_option maxHeartbeats 800000 in
theorem power_any (a : Int) (b : Nat) (ha : InR a) (hb : b ≤ 9007199254740992) (w : World) : Calls Tryd.prog 97 #[.int .i64 a, .int .i64 (b : Int)] w fun e w' => e = .returned (.int .i64 (powZ a b)) ∧ w = w' := by
  have Ha := Lib.hid ha
  obtain ⟨a0, a1⟩ := ha
  by_cases hs : (a.natAbs : Int) ≤ 1
  · by_cases h2 : 2 < b
    · obtain ⟨B, hB1, hB2, HB⟩ : ∃ B : Nat, 2 - (b : Int) % 2 = (B : Int) ∧ B ≤ 2 ∧ Hid (powZ a B = powZ a b) := ⟨2 - b % 2, by omega, by omega, Lib.hid (powZ_par (by omega) h2)⟩
      have hb2 : decide (2 < (b : Int)) = true := by simp; omega
      go_enter Tryd.func97, Tryd.ntmps97
      go_wp2_with (go_at_call 75; refine (size_any _ _ (by omega) (by omega)).mono ?_; rintro e w' ⟨rfl, rfl⟩)
      clear hB1
      go_loop [5, 17] (fun n i => ∃ k : Nat, k ≤ B ∧ i = .int .i64 k ∧ ∃ m : Int, -9007199254740992 ≤ m ∧ m ≤ 9007199254740992 ∧ n = .int .i64 m ∧ Hid (m = a ^ k)) (fun _ i => B - (intOf i).toNat)
      case atStart => exact ⟨0, Nat.zero_le _, rfl, 1, by omega, by omega, rfl, Lib.hid (by simp)⟩
      case round =>
        obtain ⟨k, hk, rfl, m, m0, m1, rfl, Hm⟩ := hrel
        by_cases hlt : k < B
        · by_cases hbig : big (m * a)
          · have hp : prodZ m a = 9007199254740993 := by unfold prodZ; rw [if_pos hbig]
            have Hc := Lib.hid (fun w => product_any m a ⟨m0, m1⟩ Ha.out w)
            rw [hp] at Hc
            have hv : Hid (powZ a b = 9007199254740993) := Lib.hid (by
              rw [← HB.out]
              refine powZ_beyond (k := k + 1) ?_ (by omega) ?_
              · rw [Int.pow_succ, ← Hm.out]; exact hbig
              · intro h0; rw [h0] at hbig; simp [big] at hbig)
            clear hp hbig
            go_wp2_with (go_at_call 94; refine (Hc.out _).mono ?_; rintro e w' ⟨rfl, rfl⟩)
            go_ret
            exact ⟨by rw [hv.out]; rfl, rfl⟩
          · have hp : prodZ m a = m * a := by unfold prodZ; rw [if_neg hbig]
            have Hc := Lib.hid (fun w => product_any m a ⟨m0, m1⟩ Ha.out w)
            rw [hp] at Hc
            obtain ⟨p0, p1⟩ := small_bd hbig
            have hpn : ((m * a) == 9007199254740993) = false := by simp; omega
            have hst : Hid (m * a = a ^ (k + 1)) := Lib.hid (by rw [Int.pow_succ, ← Hm.out])
            clear hp hbig
            go_wp2_with (go_at_call 94; refine (Hc.out _).mono ?_; rintro e w' ⟨rfl, rfl⟩)
            go_round
            case rel => exact ⟨k + 1, by omega, by go_num, m * a, p0, p1, rfl, hst⟩
            case measure => simp [intOf]; omega
        · have hv : Hid (powZ a b = m) := Lib.hid (by
            rw [← HB.out]
            obtain rfl : k = B := by omega
            unfold powZ; rw [← Hm.out, if_neg]; unfold big; omega)
          go_wp2
          go_ret
          exact ⟨by rw [hv.out]; rfl, rfl⟩
    · go_enter Tryd.func97, Tryd.ntmps97
      go_wp2_with (go_at_call 75; refine (size_any _ _ (by omega) (by omega)).mono ?_; rintro e w' ⟨rfl, rfl⟩)
      go_loop [5, 17] (fun n i => ∃ k : Nat, k ≤ b ∧ i = .int .i64 k ∧ ∃ m : Int, -9007199254740992 ≤ m ∧ m ≤ 9007199254740992 ∧ n = .int .i64 m ∧ Hid (m = a ^ k)) (fun _ i => b - (intOf i).toNat)
      case atStart => exact ⟨0, Nat.zero_le _, rfl, 1, by omega, by omega, rfl, Lib.hid (by simp)⟩
      case round =>
        obtain ⟨k, hk, rfl, m, m0, m1, rfl, Hm⟩ := hrel
        by_cases hlt : k < b
        · by_cases hbig : big (m * a)
          · have hp : prodZ m a = 9007199254740993 := by unfold prodZ; rw [if_pos hbig]
            have Hc := Lib.hid (fun w => product_any m a ⟨m0, m1⟩ Ha.out w)
            rw [hp] at Hc
            have hv : Hid (powZ a b = 9007199254740993) := Lib.hid (by
              skip
              refine powZ_beyond (k := k + 1) ?_ (by omega) ?_
              · rw [Int.pow_succ, ← Hm.out]; exact hbig
              · intro h0; rw [h0] at hbig; simp [big] at hbig)
            clear hp hbig
            go_wp2_with (go_at_call 94; refine (Hc.out _).mono ?_; rintro e w' ⟨rfl, rfl⟩)
            go_ret
            exact ⟨by rw [hv.out]; rfl, rfl⟩
          · have hp : prodZ m a = m * a := by unfold prodZ; rw [if_neg hbig]
            have Hc := Lib.hid (fun w => product_any m a ⟨m0, m1⟩ Ha.out w)
            rw [hp] at Hc
            obtain ⟨p0, p1⟩ := small_bd hbig
            have hpn : ((m * a) == 9007199254740993) = false := by simp; omega
            have hst : Hid (m * a = a ^ (k + 1)) := Lib.hid (by rw [Int.pow_succ, ← Hm.out])
            clear hp hbig
            go_wp2_with (go_at_call 94; refine (Hc.out _).mono ?_; rintro e w' ⟨rfl, rfl⟩)
            go_round
            case rel => exact ⟨k + 1, by omega, by go_num, m * a, p0, p1, rfl, hst⟩
            case measure => simp [intOf]; omega
        · have hv : Hid (powZ a b = m) := Lib.hid (by
            skip
            obtain rfl : k = b := by omega
            unfold powZ; rw [← Hm.out, if_neg]; unfold big; omega)
          go_wp2
          go_ret
          exact ⟨by rw [hv.out]; rfl, rfl⟩
  · go_enter Tryd.func97, Tryd.ntmps97
    go_wp2_with (go_at_call 75; refine (size_any _ _ (by omega) (by omega)).mono ?_; rintro e w' ⟨rfl, rfl⟩)
    go_loop [5, 17] (fun n i => ∃ k : Nat, k ≤ b ∧ i = .int .i64 k ∧ ∃ m : Int, -9007199254740992 ≤ m ∧ m ≤ 9007199254740992 ∧ n = .int .i64 m ∧ Hid (m = a ^ k)) (fun _ i => b - (intOf i).toNat)
    case atStart => exact ⟨0, Nat.zero_le _, rfl, 1, by omega, by omega, rfl, Lib.hid (by simp)⟩
    case round =>
      obtain ⟨k, hk, rfl, m, m0, m1, rfl, Hm⟩ := hrel
      by_cases hlt : k < b
      · by_cases hbig : big (m * a)
        · have hp : prodZ m a = 9007199254740993 := by unfold prodZ; rw [if_pos hbig]
          have Hc := Lib.hid (fun w => product_any m a ⟨m0, m1⟩ Ha.out w)
          rw [hp] at Hc
          have hv : Hid (powZ a b = 9007199254740993) := Lib.hid (by
            skip
            refine powZ_beyond (k := k + 1) ?_ (by omega) ?_
            · rw [Int.pow_succ, ← Hm.out]; exact hbig
            · intro h0; rw [h0] at hbig; simp [big] at hbig)
          clear hp hbig
          go_wp2_with (go_at_call 94; refine (Hc.out _).mono ?_; rintro e w' ⟨rfl, rfl⟩)
          go_ret
          exact ⟨by rw [hv.out]; rfl, rfl⟩
        · have hp : prodZ m a = m * a := by unfold prodZ; rw [if_neg hbig]
          have Hc := Lib.hid (fun w => product_any m a ⟨m0, m1⟩ Ha.out w)
          rw [hp] at Hc
          obtain ⟨p0, p1⟩ := small_bd hbig
          have hpn : ((m * a) == 9007199254740993) = false := by simp; omega
          have hst : Hid (m * a = a ^ (k + 1)) := Lib.hid (by rw [Int.pow_succ, ← Hm.out])
          clear hp hbig
          go_wp2_with (go_at_call 94; refine (Hc.out _).mono ?_; rintro e w' ⟨rfl, rfl⟩)
          go_round
          case rel => exact ⟨k + 1, by omega, by go_num, m * a, p0, p1, rfl, hst⟩
          case measure => simp [intOf]; omega
      · have hv : Hid (powZ a b = m) := Lib.hid (by
          skip
          obtain rfl : k = b := by omega
          unfold powZ; rw [← Hm.out, if_neg]; unfold big; omega)
        go_wp2
        go_ret
        exact ⟨by rw [hv.out]; rfl, rfl⟩

end Go.Proofs.YthdchkjipafmfaaDoor
