/- Plain mathematics of quotients rounded down: integers alone, no program. -/
import Derived.Below
namespace Go.Proofs.YthdchkjipafmfaaDoor

theorem quot1 {a b : Int} (h : a.tmod b = 0) : a.tdiv b = a.fdiv b := by
  rw [Int.fdiv_eq_tdiv, if_pos (Int.dvd_of_tmod_eq_zero h)]; omega
theorem ndvd {a b : Int} (h : ¬ a.tmod b = 0) : ¬ b ∣ a := fun hd => h (Int.tmod_eq_zero_of_dvd hd)
theorem quot2 {a b : Int} (hb : ¬ b = 0) (h : ¬ a.tmod b = 0) (hs : (!decide (a < 0) == decide (b < 0)) = true) : a.tdiv b - 1 = a.fdiv b := by
  rw [Int.fdiv_eq_tdiv, if_neg (ndvd h)]
  by_cases ha : a < 0
  · have hb' : ¬ b < 0 := by intro hb'; simp [ha, hb'] at hs
    rw [if_neg (by omega), if_pos (by omega), Int.sign_eq_one_of_pos (by omega)]
  · have hb' : b < 0 := by
      apply Decidable.byContradiction; intro hb'; simp [ha, hb'] at hs
    rw [if_pos (by omega), if_neg (by omega)]
theorem quot3 {a b : Int} (h : ¬ a.tmod b = 0) (hs : (!decide (a < 0) == decide (b < 0)) = false) : a.tdiv b = a.fdiv b := by
  rw [Int.fdiv_eq_tdiv, if_neg (ndvd h)]
  by_cases ha : a < 0
  · have hb' : b < 0 := by
      apply Decidable.byContradiction; intro hb'; simp [ha, hb'] at hs
    rw [if_neg (by omega), if_neg (by omega), Int.sign_eq_neg_one_of_neg hb']; omega
  · have hb' : ¬ b < 0 := by intro hb'; simp [ha, hb'] at hs
    rw [if_pos (by omega), if_pos (by omega)]; omega
theorem tdiv_bd {a b : Int} {M : Int} (h : -M ≤ a ∧ a ≤ M) : -M ≤ a.tdiv b ∧ a.tdiv b ≤ M := by
  have := Int.natAbs_tdiv_le_natAbs a b
  omega
end Go.Proofs.YthdchkjipafmfaaDoor
