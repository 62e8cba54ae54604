/- The reference's forms of one character. -/
import Derived.Test.YtlacfknoanjlpaaDoorCRInts
import Derived.Test.YtlacfknoanjlpaaDoorCForm
namespace Go.Proofs.YtlacfknoanjlpaaDoor
open Go.RowKit Go.Shelf
theorem within_r (c lo hi : Int) (w : World) : Calls Tryd.prog 117 #[.int .i64 c, .int .i64 lo, .int .i64 hi] w fun e w' => e = .returned (.bool (decide (lo ≤ c) && decide (c ≤ hi))) ∧ w = w' := by
  go_enter Tryd.func117, Tryd.ntmps117
  go_wp2
  all_goals (go_ret; exact ⟨by first | (simp_all; done) | (simp_all; omega), rfl⟩)
theorem own_lit (w : World) (l : List Int) (hl : l.length ≤ 1000) : OwnI (w.alloc (.cells (l.map intV).toArray 3)) w.heap.size (.slice (some ⟨w.heap.size, 0, none⟩) l.length l.length) l :=
  ⟨by simp, .inr ⟨w.heap.size, l.length, (l.map intV).toArray, rfl, Nat.le_refl _, heap_alloc_new w _, Nat.le_refl _, by unfold maxLen; omega, by simp, by simp [List.take_of_length_le]⟩⟩
theorem pts_lit {q : List Int} (l : List Int) (hq : Hid (q = l)) (hl : l.length ≤ 1000) (w : World) : PtsPost q w (.returned (.slice (some ⟨w.heap.size, 0, none⟩) l.length l.length)) (w.alloc (.cells (l.map intV).toArray 3)) := by
  rw [hq.out]; exact ⟨_, rfl, own_lit w l hl, (Gr.refl w).alloc _⟩
set_option maxRecDepth 100000 in
set_option maxHeartbeats 4000000 in
theorem small_r (c : Int) (h0 : 0 ≤ c) (h1 : c ≤ 1114111) (w : World) : Calls Tryd.prog 105 #[.int .i64 c] w fun e w' => e = .returned (.int .i64 (smallC c)) ∧ w = w' := by
  have HW := Lib.hid (fun c lo hi w => within_r c lo hi w)
  rcases smallC_cases c with ⟨h, e⟩ | ⟨rfl, e⟩ | ⟨rfl, e⟩ | ⟨rfl, e⟩ | ⟨h, n1, n2, n3, e⟩
  · have hu := upA_true.1 h
    have E := Lib.hid e
    clear e h
    rcases hu with hu | ⟨hu1, hu2, hu3⟩ | ⟨hu1, hu2, hu3⟩ | hu
    all_goals
      go_enter Tryd.func105, Tryd.ntmps105
      go_wp2_with (go_at_call 117; refine (HW.out _ _ _ _).mono ?_; rintro e w3 ⟨rfl, rfl⟩)
      all_goals first
        | (exfalso; simp_all; omega)
        | (go_ret; exact ⟨by rw [E.out]; rfl, rfl⟩)
  · have E := Lib.hid e
    clear e
    go_enter Tryd.func105, Tryd.ntmps105
    go_wp2_with (go_at_call 117; refine (HW.out _ _ _ _).mono ?_; rintro e w3 ⟨rfl, rfl⟩)
    go_ret
    exact ⟨by rw [E.out]; rfl, rfl⟩
  · have E := Lib.hid e
    clear e
    go_enter Tryd.func105, Tryd.ntmps105
    go_wp2_with (go_at_call 117; refine (HW.out _ _ _ _).mono ?_; rintro e w3 ⟨rfl, rfl⟩)
    go_ret
    exact ⟨by rw [E.out]; rfl, rfl⟩
  · have E := Lib.hid e
    clear e
    go_enter Tryd.func105, Tryd.ntmps105
    go_wp2_with (go_at_call 117; refine (HW.out _ _ _ _).mono ?_; rintro e w3 ⟨rfl, rfl⟩)
    go_ret
    exact ⟨by rw [E.out]; rfl, rfl⟩
  · have hu := upA_false.1 h
    have E := Lib.hid e
    have b1 : ¬ ((65 : Int) ≤ c ∧ c ≤ 90) := by omega
    have b2 : ¬ ((192 : Int) ≤ c ∧ c ≤ 222 ∧ c ≠ 215) := by omega
    have b3 : ¬ ((913 : Int) ≤ c ∧ c ≤ 937 ∧ c ≠ 930) := by omega
    have b4 : ¬ ((1040 : Int) ≤ c ∧ c ≤ 1071) := by omega
    have m1 : (c == 7838) = false := beq_eq_false_iff_ne.2 n1
    have m2 : (c == 8490) = false := beq_eq_false_iff_ne.2 n2
    have m3 : (c == 8491) = false := beq_eq_false_iff_ne.2 n3
    clear e h hu
    go_enter Tryd.func105, Tryd.ntmps105
    go_wp2_with (go_at_call 117; refine (HW.out _ _ _ _).mono ?_; rintro e w3 ⟨rfl, rfl⟩)
    all_goals first
      | (exfalso; simp_all; omega)
      | (go_ret; exact ⟨by rw [E.out]; rfl, rfl⟩)
set_option maxRecDepth 100000 in
set_option maxHeartbeats 4000000 in
theorem fold_r (c : Int) (hc : isCh c = true) (w : World) : Calls Tryd.prog 103 #[.int .i64 c] w (PtsPost (foldC c) w) := by
  have hb := isCh_true.1 hc
  by_cases h : foldS c
  · clear hb hc
    rcases h with rfl | rfl | rfl | rfl | rfl | rfl | rfl | rfl | rfl | rfl | rfl | rfl | rfl
    all_goals
      go_enter Tryd.func103, Tryd.ntmps103
      go_wp2
      go_ret
      first | exact pts_lit _ (Lib.hid rfl) (by decide) w | exact pts_lit [115, 115] (Lib.hid rfl) (by decide) w | exact pts_lit [115, 116] (Lib.hid rfl) (by decide) w
  · have E := Lib.hid (foldC_else h)
    have H := Lib.hid (fun w => small_r c (by omega) (by omega) w)
    unfold foldS at h
    have m1 : (c == 181) = false := beq_eq_false_iff_ne.2 (by omega)
    have m2 : (c == 223) = false := beq_eq_false_iff_ne.2 (by omega)
    have m3 : (c == 7838) = false := beq_eq_false_iff_ne.2 (by omega)
    have m4 : (c == 329) = false := beq_eq_false_iff_ne.2 (by omega)
    have m5 : (c == 383) = false := beq_eq_false_iff_ne.2 (by omega)
    have m6 : (c == 962) = false := beq_eq_false_iff_ne.2 (by omega)
    have l1 : (c == 64256) = false := beq_eq_false_iff_ne.2 (by omega)
    have l2 : (c == 64257) = false := beq_eq_false_iff_ne.2 (by omega)
    have l3 : (c == 64258) = false := beq_eq_false_iff_ne.2 (by omega)
    have l4 : (c == 64259) = false := beq_eq_false_iff_ne.2 (by omega)
    have l5 : (c == 64260) = false := beq_eq_false_iff_ne.2 (by omega)
    have l6 : (c == 64261) = false := beq_eq_false_iff_ne.2 (by omega)
    have l7 : (c == 64262) = false := beq_eq_false_iff_ne.2 (by omega)
    clear h
    generalize smallC c = d at *
    go_enter Tryd.func103, Tryd.ntmps103
    go_wp2_with (go_at_call 105; refine (H.out _).mono ?_; rintro e w3 ⟨rfl, rfl⟩)
    go_ret
    exact pts_lit [d] E (by simp) w
set_option maxRecDepth 100000 in
set_option maxHeartbeats 8000000 in
theorem capital_r (c : Int) (hc : isCh c = true) (w : World) : Calls Tryd.prog 102 #[.int .i64 c] w (PtsPost (capC c) w) := by
  have hb := isCh_true.1 hc
  have HW := Lib.hid (fun c lo hi w => within_r c lo hi w)
  by_cases h : capS c
  · clear hb hc
    rcases h with rfl | rfl | rfl | rfl | rfl | rfl | rfl | rfl | rfl | rfl | rfl
    all_goals
      go_enter Tryd.func102, Tryd.ntmps102
      go_wp2_with (go_at_call 117; refine (HW.out _ _ _ _).mono ?_; rintro e w3 ⟨rfl, rfl⟩)
      go_ret
      exact pts_lit _ (Lib.hid rfl) (by decide) w
  · have E0 := capC_else h
    unfold capS at h
    have m1 : (c == 962) = false := beq_eq_false_iff_ne.2 (by omega)
    cases hr : capR c
    · have E : Hid (capC c = [c]) := Lib.hid (by rw [E0, hr]; rfl)
      have hu : ¬ ((97 ≤ c ∧ c ≤ 122) ∨ (224 ≤ c ∧ c ≤ 254 ∧ c ≠ 247) ∨ (945 ≤ c ∧ c ≤ 969) ∨ (1072 ≤ c ∧ c ≤ 1103)) := by rw [← capR_true, hr]; decide
      have b1 : ¬ ((97 : Int) ≤ c ∧ c ≤ 122) := by omega
      have b2 : ¬ ((224 : Int) ≤ c ∧ c ≤ 254 ∧ c ≠ 247) := by omega
      have b3 : ¬ ((945 : Int) ≤ c ∧ c ≤ 969) := by omega
      have b4 : ¬ ((1072 : Int) ≤ c ∧ c ≤ 1103) := by omega
      have m2 : (c == 223) = false := beq_eq_false_iff_ne.2 (by omega)
      have m4 : (c == 329) = false := beq_eq_false_iff_ne.2 (by omega)
      have m5 : (c == 383) = false := beq_eq_false_iff_ne.2 (by omega)
      have l1 : (c == 64256) = false := beq_eq_false_iff_ne.2 (by omega)
      have l2 : (c == 64257) = false := beq_eq_false_iff_ne.2 (by omega)
      have l3 : (c == 64258) = false := beq_eq_false_iff_ne.2 (by omega)
      have l4 : (c == 64259) = false := beq_eq_false_iff_ne.2 (by omega)
      have l5 : (c == 64260) = false := beq_eq_false_iff_ne.2 (by omega)
      have l6 : (c == 64261) = false := beq_eq_false_iff_ne.2 (by omega)
      have l7 : (c == 64262) = false := beq_eq_false_iff_ne.2 (by omega)
      clear h hr E0 hu
      go_enter Tryd.func102, Tryd.ntmps102
      go_wp2_with (go_at_call 117; refine (HW.out _ _ _ _).mono ?_; rintro e w3 ⟨rfl, rfl⟩)
      all_goals first
        | (exfalso; simp_all; omega)
        | (go_ret; exact pts_lit [c] E (by simp) w)
    · have hu := capR_true.1 hr
      have E : Hid (capC c = [c - 32]) := Lib.hid (by rw [E0, hr]; rfl)
      clear hr E0 h
      rcases hu with hu | ⟨hu1, hu2, hu3⟩ | ⟨hu1, hu2⟩ | hu
      all_goals
        go_enter Tryd.func102, Tryd.ntmps102
        go_wp2_with (go_at_call 117; refine (HW.out _ _ _ _).mono ?_; rintro e w3 ⟨rfl, rfl⟩)
        all_goals first
          | (exfalso; simp_all; omega)
          | (go_ret; exact pts_lit [c - 32] E (by simp) w)
end Go.Proofs.YtlacfknoanjlpaaDoor
