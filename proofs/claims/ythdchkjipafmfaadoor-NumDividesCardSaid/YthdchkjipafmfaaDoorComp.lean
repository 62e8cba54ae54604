/- What operations compute: products, quotients, remainders, powers, of package num and of the reference. -/
import Derived.Test.YthdchkjipafmfaaDoorDo
import Derived.Test.YthdchkjipafmfaaDoorMat
namespace Go.Proofs.YthdchkjipafmfaaDoor
open Go.RowKit

abbrev InR (a : Int) : Prop := -9007199254740992 ≤ a ∧ a ≤ 9007199254740992

theorem product_any (a b : Int) (ha : InR a) (hb : InR b) (w : World) : Calls Tryd.prog 94 #[.int .i64 a, .int .i64 b] w fun e w' => e = .returned (.int .i64 (prodZ a b)) ∧ w = w' := by
  obtain ⟨a0, a1⟩ := ha
  obtain ⟨b0, b1⟩ := hb
  by_cases hz : a = 0
  · subst hz
    have Hv : Hid (prodZ 0 b = 0) := Lib.hid (by unfold prodZ; simp [big])
    go_enter Tryd.func94, Tryd.ntmps94
    go_wp2
    go_ret
    exact ⟨by rw [Hv.out]; first | rfl | (simp; done), rfl⟩
  · have hzb : (a == 0) = false := by simpa using hz
    have hA : 1 ≤ (a.natAbs : Int) := by omega
    by_cases hc : (9007199254740992 : Int) / (a.natAbs : Int) < (b.natAbs : Int)
    · have Hv : Hid (prodZ a b = 9007199254740993) := Lib.hid (by unfold prodZ; rw [if_pos (prod_big hz hc)])
      go_enter Tryd.func94, Tryd.ntmps94
      go_wp2_with (go_at_call 75; refine (size_any _ _ (by omega) (by omega)).mono ?_; rintro e w' ⟨rfl, rfl⟩)
      go_ret
      exact ⟨by rw [Hv.out]; rfl, rfl⟩
    · have hs := prod_small hz hc
      have Hv : Hid (prodZ a b = a * b) := Lib.hid (by unfold prodZ; rw [if_neg hs])
      obtain ⟨p0, p1⟩ := small_bd hs
      clear hs
      go_enter Tryd.func94, Tryd.ntmps94
      go_wp2_with (go_at_call 75; refine (size_any _ _ (by omega) (by omega)).mono ?_; rintro e w' ⟨rfl, rfl⟩)
      go_ret
      exact ⟨by rw [Hv.out]; rfl, rfl⟩
theorem refProduct_any (a b : Int) (ha : InR a) (hb : InR b) (w : World) : Calls Tryd.prog 57 #[.int .i64 a, .int .i64 b] w fun e w' => e = .returned (.int .i64 (prodZ a b)) ∧ w = w' := by
  obtain ⟨a0, a1⟩ := ha
  obtain ⟨b0, b1⟩ := hb
  by_cases hz : a = 0
  · subst hz
    have Hv : Hid (prodZ 0 b = 0) := Lib.hid (by unfold prodZ; simp [big])
    go_enter Tryd.func57, Tryd.ntmps57
    go_wp2
    go_ret
    exact ⟨by rw [Hv.out]; first | rfl | (simp; done), rfl⟩
  · have hzb : (a == 0) = false := by simpa using hz
    have hA : 1 ≤ (a.natAbs : Int) := by omega
    by_cases hc : (9007199254740992 : Int) / (a.natAbs : Int) < (b.natAbs : Int)
    · have Hv : Hid (prodZ a b = 9007199254740993) := Lib.hid (by unfold prodZ; rw [if_pos (prod_big hz hc)])
      go_enter Tryd.func57, Tryd.ntmps57
      go_wp2_with (go_at_call 29; refine (refSize_any _ _ (by omega) (by omega)).mono ?_; rintro e w' ⟨rfl, rfl⟩)
      go_ret
      exact ⟨by rw [Hv.out]; rfl, rfl⟩
    · have hs := prod_small hz hc
      have Hv : Hid (prodZ a b = a * b) := Lib.hid (by unfold prodZ; rw [if_neg hs])
      obtain ⟨p0, p1⟩ := small_bd hs
      clear hs
      go_enter Tryd.func57, Tryd.ntmps57
      go_wp2_with (go_at_call 29; refine (refSize_any _ _ (by omega) (by omega)).mono ?_; rintro e w' ⟨rfl, rfl⟩)
      go_ret
      exact ⟨by rw [Hv.out]; rfl, rfl⟩

theorem tdiv_ne {a b : Int} (h : a.tmod b = 0) : (a.tdiv b * b != a) = false := by
  have := Int.tdiv_mul_add_tmod a b
  rw [h] at this; simp; omega
theorem tdiv_eq {a b : Int} (h : ¬ a.tmod b = 0) : (a.tdiv b * b != a) = true := by
  have := Int.tdiv_mul_add_tmod a b
  simp; omega
theorem tdiv_mul_bd {a b : Int} (ha : InR a) : InR (a.tdiv b * b) := by
  have h : (a.tdiv b * b).natAbs ≤ a.natAbs := by
    rw [Int.natAbs_mul, Int.natAbs_tdiv]; exact Nat.div_mul_le_self _ _
  unfold InR at *; omega
theorem fmod_bd (a b : Int) : (0 < b → 0 ≤ a.fmod b ∧ a.fmod b < b) ∧ (b < 0 → b < a.fmod b ∧ a.fmod b ≤ 0) := by
  refine ⟨fun h => ⟨Int.fmod_nonneg_of_pos a h, Int.fmod_lt_of_pos a h⟩, fun h => ?_⟩
  have h1 := Int.fmod_nonneg_of_pos (-a) (b := -b) (by omega)
  have h2 := Int.fmod_lt_of_pos (-a) (b := -b) (by omega)
  rw [Int.neg_fmod_neg] at h1 h2
  omega
theorem refQuotient_any (a b : Int) (ha : InR a) (hb : ¬ b = 0) (w : World) : Calls Tryd.prog 58 #[.int .i64 a, .int .i64 b] w fun e w' => e = .returned (.int .i64 (a.fdiv b)) ∧ w = w' := by
  obtain ⟨hd0, hd1⟩ := tdiv_bd (b := b) ha
  obtain ⟨hm0, hm1⟩ := tdiv_mul_bd (b := b) ha
  by_cases ht : a.tmod b = 0
  · have hne := tdiv_ne ht
    have Hq := Lib.hid (quot1 ht)
    clear ht
    go_enter Tryd.func58, Tryd.ntmps58
    go_wp2
    go_ret
    exact ⟨by rw [← Hq.out]; rfl, rfl⟩
  · have hne := tdiv_eq ht
    cases hs : (!decide (a < 0) == decide (b < 0))
    · have Hq := Lib.hid (quot3 ht hs)
      clear ht
      go_enter Tryd.func58, Tryd.ntmps58
      go_wp2
      go_ret
      exact ⟨by rw [← Hq.out]; rfl, rfl⟩
    · have Hq := Lib.hid (quot2 hb ht hs)
      clear ht
      go_enter Tryd.func58, Tryd.ntmps58
      go_wp2
      go_ret
      exact ⟨by rw [← Hq.out]; rfl, rfl⟩
theorem mul_fdiv_bd {a b : Int} (ha : InR a) (hb : InR b) (h0 : ¬ b = 0) : -18014398509481984 ≤ b * a.fdiv b ∧ b * a.fdiv b ≤ 18014398509481984 := by
  have h1 := Int.mul_fdiv_add_fmod a b
  have h2 := fmod_bd a b
  unfold InR at *
  rcases Int.lt_or_gt_of_ne h0 with h | h
  · have := h2.2 h; omega
  · have := h2.1 h; omega
theorem remainder_any (a b : Int) (ha : InR a) (hb' : InR b) (hb : ¬ b = 0) (w : World) : Calls Tryd.prog 96 #[.int .i64 a, .int .i64 b] w fun e w' => e = .returned (.int .i64 (a.fmod b)) ∧ w = w' := by
  obtain ⟨m0, m1⟩ := mul_fdiv_bd ha hb' hb
  have Hv := Lib.hid (Int.fmod_def a b)
  have Ha := Lib.hid ha
  obtain ⟨a0, a1⟩ := ha
  clear hb'
  go_enter Tryd.func96, Tryd.ntmps96
  go_wp2_with (go_at_call 95; refine (quotient_any _ _ _ Ha.out hb).mono ?_; rintro e w' ⟨rfl, rfl⟩)
  go_ret
  exact ⟨by rw [Hv.out]; rfl, rfl⟩
end Go.Proofs.YthdchkjipafmfaaDoor
