/- Rounding: contracts of Round on both sides; the walk of NumRounds. -/
import Derived.Test.YthdchkjipafmfaaDoorKnown
namespace Go.Proofs.YthdchkjipafmfaaDoor
open Go.RowKit

def nearZ (K t : Int) : Int := if t ≤ 2 * (K % t) then K - K % t + t else K - K % t
/-- what Round gives: the number, the error -/
def rndZ (n t : Int) : Int × Int :=
  if isNumB n = false ∨ t < 1 ∨ 9007199254740992 < t then (0, 1) else
  if 9007199254740992 < nearZ n.natAbs t then (0, 3) else if n < 0 then (-nearZ n.natAbs t, 0) else (nearZ n.natAbs t, 0)
def RndPost (n t : Int) (w : World) (e : Ending) (w' : World) : Prop := e = .returned (.tuple #[.int .i64 (rndZ n t).1, .int .i64 (rndZ n t).2]) ∧ w = w'
theorem rnd_post {n t a b : Int} {w : World} (h : rndZ n t = (a, b)) : RndPost n t w (.returned (.tuple #[.int .i64 a, .int .i64 b])) w := by
  unfold RndPost; rw [h]; exact ⟨rfl, rfl⟩
theorem divmod (K t : Int) : K / t * t = K - K % t := by
  have := Int.mul_ediv_add_emod K t
  rw [Int.mul_comm] at this; omega

theorem emod_le {K t : Int} (h : 0 ≤ K) (ht : 0 ≤ t) : K % t ≤ K := by
  have h1 := divmod K t
  have h2 : 0 ≤ K / t * t := Int.mul_nonneg (Int.ediv_nonneg h ht) ht
  omega

theorem round_bad (n t : Int) (h : isNumB n = false ∨ t < 1 ∨ 9007199254740992 < t) (w : World) : Calls Tryd.prog 46 #[.int .i64 n, .int .i64 t] w (RndPost n t w) := by
  have hr : Hid (rndZ n t = (0, 1)) := Lib.hid (by unfold rndZ; rw [if_pos h])
  by_cases h1 : t < 1
  · go_enter Tryd.func46, Tryd.ntmps46
    go_wp2
    go_ret2
    exact rnd_post hr.out
  · by_cases h2 : 9007199254740992 < t
    · go_enter Tryd.func46, Tryd.ntmps46
      go_wp2
      go_ret2
      exact rnd_post hr.out
    · have h3 : isNumB n = false := by rcases h with h | h | h <;> first | exact h | omega
      go_enter Tryd.func46, Tryd.ntmps46
      go_wp2_with (go_at_call 62; refine (isNumber_any _ _).mono ?_; rintro e w' ⟨rfl, rfl⟩)
      go_ret2
      exact rnd_post hr.out
theorem refRound_bad (n t : Int) (h : isNumB n = false ∨ t < 1 ∨ 9007199254740992 < t) (w : World) : Calls Tryd.prog 45 #[.int .i64 n, .int .i64 t] w (RndPost n t w) := by
  have hr : Hid (rndZ n t = (0, 1)) := Lib.hid (by unfold rndZ; rw [if_pos h])
  cases h3 : isNumB n
  · go_enter Tryd.func45, Tryd.ntmps45
    go_wp2_with (go_at_call 47; refine (isNum_any _ _).mono ?_; rintro e w' ⟨rfl, rfl⟩)
    go_ret2
    exact rnd_post hr.out
  · by_cases h1 : t < 1
    · go_enter Tryd.func45, Tryd.ntmps45
      go_wp2_with (go_at_call 47; refine (isNum_any _ _).mono ?_; rintro e w' ⟨rfl, rfl⟩)
      go_ret2
      exact rnd_post hr.out
    · have h2 : 9007199254740992 < t := by rcases h with h | h | h <;> first | (rw [h3] at h; cases h) | omega
      go_enter Tryd.func45, Tryd.ntmps45
      go_wp2_with (go_at_call 47; refine (isNum_any _ _).mono ?_; rintro e w' ⟨rfl, rfl⟩)
      go_ret2
      exact rnd_post hr.out
theorem round_ok (n t : Int) (hn : isNumB n = true) (h1 : 1 ≤ t) (h2 : t ≤ 9007199254740992) (w : World) : Calls Tryd.prog 46 #[.int .i64 n, .int .i64 t] w (RndPost n t w) := by
  have hb := isNumB_true.1 hn
  have hr : Hid (rndZ n t = if 9007199254740992 < nearZ n.natAbs t then (0, 3) else if n < 0 then (-nearZ n.natAbs t, 0) else (nearZ n.natAbs t, 0)) := Lib.hid (by
    unfold rndZ; rw [if_neg (by rw [hn]; simp; omega)])
  have hS := Lib.hid (fun w => size_any n w (by omega) (by omega))
  have hK0 : (n.natAbs : Int) ≤ 9007199254740992 := by omega
  have hK1 : 0 ≤ (n.natAbs : Int) := by omega
  clear hb
  generalize (n.natAbs : Int) = K at *
  have m0 : 0 ≤ K % t := Int.emod_nonneg _ (by omega)
  have m1 : K % t < t := Int.emod_lt_of_pos _ (by omega)
  have m2 : K % t ≤ K := emod_le hK1 (by omega)
  by_cases hc : t ≤ 2 * (K % t)
  · have hv : nearZ K t = K - K % t + t := by unfold nearZ; rw [if_pos hc]
    by_cases hl : 9007199254740992 < K - K % t + t
    · have hf : Hid (rndZ n t = (0, 3)) := Lib.hid (by rw [hr.out, hv, if_pos hl])
      clear hv hr
      go_enter Tryd.func46, Tryd.ntmps46
      go_wp2_with (first | (go_at_call 62; refine (isNumber_any _ _).mono ?_; rintro e w' ⟨rfl, rfl⟩) | (go_at_call 75; refine (hS.out _).mono ?_; rintro e w' ⟨rfl, rfl⟩))
      go_ret2
      exact rnd_post hf.out
    · by_cases hg : n < 0
      · have hf : Hid (rndZ n t = (-(K - K % t + t), 0)) := Lib.hid (by rw [hr.out, hv, if_neg hl, if_pos hg])
        clear hv hr
        go_enter Tryd.func46, Tryd.ntmps46
        go_wp2_with (first | (go_at_call 62; refine (isNumber_any _ _).mono ?_; rintro e w' ⟨rfl, rfl⟩) | (go_at_call 75; refine (hS.out _).mono ?_; rintro e w' ⟨rfl, rfl⟩))
        go_ret2
        exact rnd_post hf.out
      · have hf : Hid (rndZ n t = (K - K % t + t, 0)) := Lib.hid (by rw [hr.out, hv, if_neg hl, if_neg hg])
        clear hv hr
        go_enter Tryd.func46, Tryd.ntmps46
        go_wp2_with (first | (go_at_call 62; refine (isNumber_any _ _).mono ?_; rintro e w' ⟨rfl, rfl⟩) | (go_at_call 75; refine (hS.out _).mono ?_; rintro e w' ⟨rfl, rfl⟩))
        go_ret2
        exact rnd_post hf.out
  · have hv : nearZ K t = K - K % t := by unfold nearZ; rw [if_neg hc]
    have hl : ¬ 9007199254740992 < K - K % t := by omega
    by_cases hg : n < 0
    · have hf : Hid (rndZ n t = (-(K - K % t), 0)) := Lib.hid (by rw [hr.out, hv, if_neg hl, if_pos hg])
      clear hv hr
      go_enter Tryd.func46, Tryd.ntmps46
      go_wp2_with (first | (go_at_call 62; refine (isNumber_any _ _).mono ?_; rintro e w' ⟨rfl, rfl⟩) | (go_at_call 75; refine (hS.out _).mono ?_; rintro e w' ⟨rfl, rfl⟩))
      go_ret2
      exact rnd_post hf.out
    · have hf : Hid (rndZ n t = (K - K % t, 0)) := Lib.hid (by rw [hr.out, hv, if_neg hl, if_neg hg])
      clear hv hr
      go_enter Tryd.func46, Tryd.ntmps46
      go_wp2_with (first | (go_at_call 62; refine (isNumber_any _ _).mono ?_; rintro e w' ⟨rfl, rfl⟩) | (go_at_call 75; refine (hS.out _).mono ?_; rintro e w' ⟨rfl, rfl⟩))
      go_ret2
      exact rnd_post hf.out
theorem refRound_ok (n t : Int) (hn : isNumB n = true) (h1 : 1 ≤ t) (h2 : t ≤ 9007199254740992) (w : World) : Calls Tryd.prog 45 #[.int .i64 n, .int .i64 t] w (RndPost n t w) := by
  have hb := isNumB_true.1 hn
  have hr : Hid (rndZ n t = if 9007199254740992 < nearZ n.natAbs t then (0, 3) else if n < 0 then (-nearZ n.natAbs t, 0) else (nearZ n.natAbs t, 0)) := Lib.hid (by
    unfold rndZ; rw [if_neg (by rw [hn]; simp; omega)])
  have hS := Lib.hid (fun w => refSize_any n w (by omega) (by omega))
  have hK0 : (n.natAbs : Int) ≤ 9007199254740992 := by omega
  have hK1 : 0 ≤ (n.natAbs : Int) := by omega
  clear hb
  generalize (n.natAbs : Int) = K at *
  have m0 : 0 ≤ K % t := Int.emod_nonneg _ (by omega)
  have m1 : K % t < t := Int.emod_lt_of_pos _ (by omega)
  have m2 : K % t ≤ K := emod_le hK1 (by omega)
  have hd := divmod K t
  have d0 : 0 ≤ K / t * t := by omega
  have d1 : K / t * t ≤ K := by omega
  by_cases hc : t ≤ 2 * (K % t)
  · have hv : nearZ K t = K / t * t + t := by unfold nearZ; rw [if_pos hc]; omega
    have hc' : t ≤ 2 * (K - K / t * t) := by omega
    by_cases hl : 9007199254740992 < K / t * t + t
    · have hf : Hid (rndZ n t = (0, 3)) := Lib.hid (by rw [hr.out, hv, if_pos hl])
      clear hv hr hd m0 m1 m2 hc
      go_enter Tryd.func45, Tryd.ntmps45
      go_wp2_with (first | (go_at_call 47; refine (isNum_any _ _).mono ?_; rintro e w' ⟨rfl, rfl⟩) | (go_at_call 29; refine (hS.out _).mono ?_; rintro e w' ⟨rfl, rfl⟩))
      go_ret2
      exact rnd_post hf.out
    · by_cases hg : n < 0
      · have hf : Hid (rndZ n t = (-(K / t * t + t), 0)) := Lib.hid (by rw [hr.out, hv, if_neg hl, if_pos hg])
        clear hv hr hd m0 m1 m2 hc
        go_enter Tryd.func45, Tryd.ntmps45
        go_wp2_with (first | (go_at_call 47; refine (isNum_any _ _).mono ?_; rintro e w' ⟨rfl, rfl⟩) | (go_at_call 29; refine (hS.out _).mono ?_; rintro e w' ⟨rfl, rfl⟩))
        go_ret2
        exact rnd_post hf.out
      · have hf : Hid (rndZ n t = (K / t * t + t, 0)) := Lib.hid (by rw [hr.out, hv, if_neg hl, if_neg hg])
        clear hv hr hd m0 m1 m2 hc
        go_enter Tryd.func45, Tryd.ntmps45
        go_wp2_with (first | (go_at_call 47; refine (isNum_any _ _).mono ?_; rintro e w' ⟨rfl, rfl⟩) | (go_at_call 29; refine (hS.out _).mono ?_; rintro e w' ⟨rfl, rfl⟩))
        go_ret2
        exact rnd_post hf.out
  · have hv : nearZ K t = K / t * t := by unfold nearZ; rw [if_neg hc]; omega
    have hc' : ¬ t ≤ 2 * (K - K / t * t) := by omega
    have hl : ¬ 9007199254740992 < K / t * t := by omega
    by_cases hg : n < 0
    · have hf : Hid (rndZ n t = (-(K / t * t), 0)) := Lib.hid (by rw [hr.out, hv, if_neg hl, if_pos hg])
      clear hv hr hd m0 m1 m2 hc
      go_enter Tryd.func45, Tryd.ntmps45
      go_wp2_with (first | (go_at_call 47; refine (isNum_any _ _).mono ?_; rintro e w' ⟨rfl, rfl⟩) | (go_at_call 29; refine (hS.out _).mono ?_; rintro e w' ⟨rfl, rfl⟩))
      go_ret2
      exact rnd_post hf.out
    · have hf : Hid (rndZ n t = (K / t * t, 0)) := Lib.hid (by rw [hr.out, hv, if_neg hl, if_neg hg])
      clear hv hr hd m0 m1 m2 hc
      go_enter Tryd.func45, Tryd.ntmps45
      go_wp2_with (first | (go_at_call 47; refine (isNum_any _ _).mono ?_; rintro e w' ⟨rfl, rfl⟩) | (go_at_call 29; refine (hS.out _).mono ?_; rintro e w' ⟨rfl, rfl⟩))
      go_ret2
      exact rnd_post hf.out
theorem round_any (n t : Int) (w : World) : Calls Tryd.prog 46 #[.int .i64 n, .int .i64 t] w (RndPost n t w) := by
  by_cases h : isNumB n = false ∨ t < 1 ∨ 9007199254740992 < t
  · exact round_bad n t h w
  · exact round_ok n t (by cases hh : isNumB n <;> simp [hh] at h ⊢) (by omega) (by omega) w
theorem refRound_any (n t : Int) (w : World) : Calls Tryd.prog 45 #[.int .i64 n, .int .i64 t] w (RndPost n t w) := by
  by_cases h : isNumB n = false ∨ t < 1 ∨ 9007199254740992 < t
  · exact refRound_bad n t h w
  · exact refRound_ok n t (by cases hh : isNumB n <;> simp [hh] at h ⊢) (by omega) (by omega) w
theorem law_rounds (n t : Int) (_hn : -9223372036854775808 ≤ n ∧ n ≤ 9223372036854775807) (_ht : -9223372036854775808 ≤ t ∧ t ≤ 9223372036854775807) (w : World) :
    Calls Tryd.prog 14 #[.int .i64 n, .int .i64 t] w fun e w' => e = .returned (.bool true) ∧ Gr w w' := by
  have R1 := Lib.hid (fun w => refRound_any n t w)
  have R2 := Lib.hid (fun w => round_any n t w)
  unfold RndPost at R1 R2
  generalize (rndZ n t).1 = x at *
  generalize (rndZ n t).2 = y at *
  go_enter Tryd.func14, Tryd.ntmps14
  go_wp2_with fail
  refine (R1.out _).mono ?_
  rintro e w' ⟨rfl, rfl⟩
  go_wp2_with fail
  refine (R2.out _).mono ?_
  rintro e w' ⟨rfl, rfl⟩
  go_wp2_with fail
  refine (known_any _).mono ?_
  rintro e w' ⟨rfl, hg⟩
  go_wp2
  go_ret
  exact ⟨rfl, hg⟩
end Go.Proofs.YthdchkjipafmfaaDoor
