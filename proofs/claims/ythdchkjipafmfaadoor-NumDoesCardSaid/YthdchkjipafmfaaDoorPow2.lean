/- The powers of the reference. -/
import Derived.Test.YthdchkjipafmfaaDoorPow
namespace Go.Proofs.YthdchkjipafmfaaDoor
open Go.RowKit

set_option maxHeartbeats 800000 in
theorem refPower_any (a : Int) (b : Nat) (ha : InR a) (hb : b ≤ 9007199254740992) (w : World) : Calls Tryd.prog 59 #[.int .i64 a, .int .i64 (b : Int)] w fun e w' => e = .returned (.int .i64 (powZ a b)) ∧ w = w' := by
  have Ha := Lib.hid ha
  obtain ⟨a0, a1⟩ := ha
  by_cases z0 : a = 0
  · subst z0
    by_cases hb0 : b = 0
    · subst hb0
      have hv : Hid (powZ 0 0 = 1) := Lib.hid (powZ_zero 0)
      go_enter Tryd.func59, Tryd.ntmps59
      go_wp2
      go_ret
      exact ⟨by rw [hv.out]; first | rfl | (simp; done), rfl⟩
    · have hv : Hid (powZ 0 b = 0) := Lib.hid (powZ_0 (by omega))
      have hbz : ((b : Int) == 0) = false := by simp; omega
      go_enter Tryd.func59, Tryd.ntmps59
      go_wp2
      go_ret
      exact ⟨by rw [hv.out]; first | rfl | (simp; done), rfl⟩
  · have z0b : (a == 0) = false := by simpa using z0
    by_cases z1 : a = 1
    · subst z1
      have hv : Hid (powZ 1 b = 1) := Lib.hid (powZ_1 b)
      by_cases hb0 : b = 0
      · subst hb0
        go_enter Tryd.func59, Tryd.ntmps59
        go_wp2
        go_ret
        exact ⟨by rw [hv.out]; first | rfl | (simp; done), rfl⟩
      · have hbz : ((b : Int) == 0) = false := by simp; omega
        go_enter Tryd.func59, Tryd.ntmps59
        go_wp2
        go_ret
        exact ⟨by rw [hv.out]; first | rfl | (simp; done), rfl⟩
    · have z1b : (a == 1) = false := by simpa using z1
      by_cases zm : a = -1
      · subst zm
        have hv : Hid (powZ (-1) b = 1 - 2 * ((b : Int) % 2)) := Lib.hid (by rw [powZ_neg1]; omega)
        go_enter Tryd.func59, Tryd.ntmps59
        go_wp2
        go_ret
        exact ⟨by rw [hv.out]; first | rfl | (simp; done), rfl⟩
      · have zmb : (a == -1) = false := by simpa using zm
        have hA : 2 ≤ (a.natAbs : Int) := by omega
        obtain ⟨q, hq⟩ : ∃ q : Int, q = 9007199254740992 / (a.natAbs : Int) := ⟨_, rfl⟩
        have Hq := Lib.hid hq
        have q0 : 0 ≤ (9007199254740992 : Int) / (a.natAbs : Int) := Int.ediv_nonneg (by omega) (by omega)
        have q1 : (9007199254740992 : Int) / (a.natAbs : Int) ≤ 9007199254740992 := Int.ediv_le_self _ (by omega)
        clear hq
        go_enter Tryd.func59, Tryd.ntmps59
        go_wp2_with fail
        go_loop [5, 6] (fun n i => ∃ k : Nat, k ≤ b ∧ i = .int .i64 k ∧ ∃ m : Int, -9007199254740992 ≤ m ∧ m ≤ 9007199254740992 ∧ n = .int .i64 m ∧ Hid (m = a ^ k)) (fun _ i => b - (intOf i).toNat)
        case atStart => exact ⟨0, Nat.zero_le _, rfl, 1, by omega, by omega, rfl, Lib.hid (by simp)⟩
        case round =>
          obtain ⟨k, hk, rfl, m, m0, m1, rfl, Hm⟩ := hrel
          by_cases hlt : k < b
          · by_cases hbig : big (a * m)
            · have hv : Hid (powZ a b = 9007199254740993) := Lib.hid (by
                refine powZ_beyond (k := k + 1) ?_ (by omega) z0
                rw [Int.pow_succ, ← Hm.out, Int.mul_comm]; exact hbig)
              have hd : (9007199254740992 : Int) / (a.natAbs : Int) < (m.natAbs : Int) := Decidable.byContradiction (fun h => prod_small z0 h hbig)
              by_cases hmq : (9007199254740992 : Int) / (a.natAbs : Int) < m
              · clear hbig hd
                go_wp2_with (go_at_call 29; refine (refSize_any _ _ (by omega) (by omega)).mono ?_; rintro e w' ⟨rfl, rfl⟩)
                go_ret
                exact ⟨by rw [hv.out]; rfl, rfl⟩
              · have hmq2 : m < -((9007199254740992 : Int) / (a.natAbs : Int)) := by omega
                clear hbig hd
                go_wp2_with (go_at_call 29; refine (refSize_any _ _ (by omega) (by omega)).mono ?_; rintro e w' ⟨rfl, rfl⟩)
                go_ret
                exact ⟨by rw [hv.out]; rfl, rfl⟩
            · have hd : ¬ (9007199254740992 : Int) / (a.natAbs : Int) < (m.natAbs : Int) := fun h => hbig (prod_big z0 h)
              have hmq : ¬ (9007199254740992 : Int) / (a.natAbs : Int) < m := by omega
              have hmq2 : ¬ m < -((9007199254740992 : Int) / (a.natAbs : Int)) := by omega
              rw [Int.mul_comm] at hbig
              obtain ⟨p0, p1⟩ := small_bd hbig
              have hst : Hid (m * a = a ^ (k + 1)) := Lib.hid (by rw [Int.pow_succ, ← Hm.out])
              clear hbig hd
              go_wp2_with (go_at_call 29; refine (refSize_any _ _ (by omega) (by omega)).mono ?_; rintro e w' ⟨rfl, rfl⟩)
              go_round
              case rel => exact ⟨k + 1, by omega, by go_num, m * a, p0, p1, rfl, hst⟩
              case measure => simp [intOf]; omega
          · have hv : Hid (powZ a b = m) := Lib.hid (by
              obtain rfl : k = b := by omega
              unfold powZ; rw [← Hm.out, if_neg]; unfold big; omega)
            go_wp2
            go_ret
            exact ⟨by rw [hv.out]; rfl, rfl⟩
end Go.Proofs.YthdchkjipafmfaaDoor
