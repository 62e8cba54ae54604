/- The reference's classes of one character, by name. -/
import Derived.Test.YtiohoiebnpdkbaaDoorCRChr
import Derived.Test.YtiohoiebnpdkbaaDoorCSpan
namespace Go.Proofs.YtiohoiebnpdkbaaDoor
open Go.RowKit Go.Shelf
theorem within_b (c lo hi : Int) (w : World) : Calls Tryd.prog 85 #[.int .i64 c, .int .i64 lo, .int .i64 hi] w fun e w' => e = .returned (.bool (inB c lo hi)) ∧ w = w' := within_r c lo hi w
set_option maxRecDepth 100000 in
theorem isUpper_r (c : Int) (w : World) : Calls Tryd.prog 48 #[.int .i64 c] w fun e w' => e = .returned (.bool (upperB c)) ∧ w = w' := by
  have HW := Lib.hid (fun c lo hi w => within_r c lo hi w)
  by_cases s : c = 215 ∨ c = 930 ∨ c = 7838 ∨ c = 8490 ∨ c = 8491
  · rcases s with rfl | rfl | rfl | rfl | rfl
    all_goals
      go_enter Tryd.func48, Tryd.ntmps48
      go_wp2_with (go_at_call 85; refine (HW.out _ _ _ _).mono ?_; rintro e w3 ⟨rfl, rfl⟩)
      go_ret
      exact ⟨rfl, rfl⟩
  · obtain ⟨n0, n1, n2, n3, n4⟩ : ¬ c = 215 ∧ ¬ c = 930 ∧ ¬ c = 7838 ∧ ¬ c = 8490 ∧ ¬ c = 8491 := by simpa only [not_or] using s
    clear s
    have m0 : (c == 215) = false := beq_eq_false_iff_ne.2 n0
    have m1 : (c == 930) = false := beq_eq_false_iff_ne.2 n1
    have m2 : (c == 7838) = false := beq_eq_false_iff_ne.2 n2
    have m3 : (c == 8490) = false := beq_eq_false_iff_ne.2 n3
    have m4 : (c == 8491) = false := beq_eq_false_iff_ne.2 n4
    have E : upperB c = (inB c 65 90 || inB c 192 222 || inB c 913 937 || inB c 1040 1071) := by simp [upperB, upA, bne, m0, m1, m2, m3, m4]
    rw [E]; clear E HW
    have H0 := Lib.hid (fun w => within_b c 65 90 w)
    have H1 := Lib.hid (fun w => within_b c 192 222 w)
    have H2 := Lib.hid (fun w => within_b c 913 937 w)
    have H3 := Lib.hid (fun w => within_b c 1040 1071 w)
    generalize inB c 65 90 = b0 at *
    generalize inB c 192 222 = b1 at *
    generalize inB c 913 937 = b2 at *
    generalize inB c 1040 1071 = b3 at *
    cases b0
    case true =>
      go_enter Tryd.func48, Tryd.ntmps48
      go_wp2_with fail
      refine (H0.out _).mono ?_
      rintro e w1 ⟨rfl, rfl⟩
      go_wp2
      go_ret
      exact ⟨by first | rfl | simp, rfl⟩
    cases b1
    case true =>
      go_enter Tryd.func48, Tryd.ntmps48
      go_wp2_with fail
      refine (H0.out _).mono ?_
      rintro e w1 ⟨rfl, rfl⟩
      go_wp2_with fail
      refine (H1.out _).mono ?_
      rintro e w2 ⟨rfl, rfl⟩
      go_wp2
      go_ret
      exact ⟨by first | rfl | simp, rfl⟩
    cases b2
    case true =>
      go_enter Tryd.func48, Tryd.ntmps48
      go_wp2_with fail
      refine (H0.out _).mono ?_
      rintro e w1 ⟨rfl, rfl⟩
      go_wp2_with fail
      refine (H1.out _).mono ?_
      rintro e w2 ⟨rfl, rfl⟩
      go_wp2_with fail
      refine (H2.out _).mono ?_
      rintro e w3 ⟨rfl, rfl⟩
      go_wp2
      go_ret
      exact ⟨by first | rfl | simp, rfl⟩
    cases b3
    case true =>
      go_enter Tryd.func48, Tryd.ntmps48
      go_wp2_with fail
      refine (H0.out _).mono ?_
      rintro e w1 ⟨rfl, rfl⟩
      go_wp2_with fail
      refine (H1.out _).mono ?_
      rintro e w2 ⟨rfl, rfl⟩
      go_wp2_with fail
      refine (H2.out _).mono ?_
      rintro e w3 ⟨rfl, rfl⟩
      go_wp2_with fail
      refine (H3.out _).mono ?_
      rintro e w4 ⟨rfl, rfl⟩
      go_wp2
      go_ret
      exact ⟨by first | rfl | simp, rfl⟩
    go_enter Tryd.func48, Tryd.ntmps48
    go_wp2_with fail
    refine (H0.out _).mono ?_
    rintro e w1 ⟨rfl, rfl⟩
    go_wp2_with fail
    refine (H1.out _).mono ?_
    rintro e w2 ⟨rfl, rfl⟩
    go_wp2_with fail
    refine (H2.out _).mono ?_
    rintro e w3 ⟨rfl, rfl⟩
    go_wp2_with fail
    refine (H3.out _).mono ?_
    rintro e w4 ⟨rfl, rfl⟩
    go_wp2
    go_ret
    exact ⟨by first | rfl | simp, rfl⟩
set_option maxRecDepth 100000 in
theorem isLower_r (c : Int) (w : World) : Calls Tryd.prog 49 #[.int .i64 c] w fun e w' => e = .returned (.bool (lowerB c)) ∧ w = w' := by
  have HW := Lib.hid (fun c lo hi w => within_r c lo hi w)
  by_cases s : c = 247 ∨ c = 181 ∨ c = 329 ∨ c = 383
  · rcases s with rfl | rfl | rfl | rfl
    all_goals
      go_enter Tryd.func49, Tryd.ntmps49
      go_wp2_with (go_at_call 85; refine (HW.out _ _ _ _).mono ?_; rintro e w3 ⟨rfl, rfl⟩)
      go_ret
      exact ⟨rfl, rfl⟩
  · obtain ⟨n0, n1, n2, n3⟩ : ¬ c = 247 ∧ ¬ c = 181 ∧ ¬ c = 329 ∧ ¬ c = 383 := by simpa only [not_or] using s
    clear s
    have m0 : (c == 247) = false := beq_eq_false_iff_ne.2 n0
    have m1 : (c == 181) = false := beq_eq_false_iff_ne.2 n1
    have m2 : (c == 329) = false := beq_eq_false_iff_ne.2 n2
    have m3 : (c == 383) = false := beq_eq_false_iff_ne.2 n3
    have E : lowerB c = (inB c 97 122 || inB c 223 255 || inB c 945 969 || inB c 1072 1103 || inB c 64256 64262) := by simp [lowerB, bne, m0, m1, m2, m3]
    rw [E]; clear E HW
    have H0 := Lib.hid (fun w => within_b c 97 122 w)
    have H1 := Lib.hid (fun w => within_b c 223 255 w)
    have H2 := Lib.hid (fun w => within_b c 945 969 w)
    have H3 := Lib.hid (fun w => within_b c 1072 1103 w)
    have H4 := Lib.hid (fun w => within_b c 64256 64262 w)
    generalize inB c 97 122 = b0 at *
    generalize inB c 223 255 = b1 at *
    generalize inB c 945 969 = b2 at *
    generalize inB c 1072 1103 = b3 at *
    generalize inB c 64256 64262 = b4 at *
    cases b0
    case true =>
      go_enter Tryd.func49, Tryd.ntmps49
      go_wp2_with fail
      refine (H0.out _).mono ?_
      rintro e w1 ⟨rfl, rfl⟩
      go_wp2
      go_ret
      exact ⟨by first | rfl | simp, rfl⟩
    cases b1
    case true =>
      go_enter Tryd.func49, Tryd.ntmps49
      go_wp2_with fail
      refine (H0.out _).mono ?_
      rintro e w1 ⟨rfl, rfl⟩
      go_wp2_with fail
      refine (H1.out _).mono ?_
      rintro e w2 ⟨rfl, rfl⟩
      go_wp2
      go_ret
      exact ⟨by first | rfl | simp, rfl⟩
    cases b2
    case true =>
      go_enter Tryd.func49, Tryd.ntmps49
      go_wp2_with fail
      refine (H0.out _).mono ?_
      rintro e w1 ⟨rfl, rfl⟩
      go_wp2_with fail
      refine (H1.out _).mono ?_
      rintro e w2 ⟨rfl, rfl⟩
      go_wp2_with fail
      refine (H2.out _).mono ?_
      rintro e w3 ⟨rfl, rfl⟩
      go_wp2
      go_ret
      exact ⟨by first | rfl | simp, rfl⟩
    cases b3
    case true =>
      go_enter Tryd.func49, Tryd.ntmps49
      go_wp2_with fail
      refine (H0.out _).mono ?_
      rintro e w1 ⟨rfl, rfl⟩
      go_wp2_with fail
      refine (H1.out _).mono ?_
      rintro e w2 ⟨rfl, rfl⟩
      go_wp2_with fail
      refine (H2.out _).mono ?_
      rintro e w3 ⟨rfl, rfl⟩
      go_wp2_with fail
      refine (H3.out _).mono ?_
      rintro e w4 ⟨rfl, rfl⟩
      go_wp2
      go_ret
      exact ⟨by first | rfl | simp, rfl⟩
    cases b4
    case true =>
      go_enter Tryd.func49, Tryd.ntmps49
      go_wp2_with fail
      refine (H0.out _).mono ?_
      rintro e w1 ⟨rfl, rfl⟩
      go_wp2_with fail
      refine (H1.out _).mono ?_
      rintro e w2 ⟨rfl, rfl⟩
      go_wp2_with fail
      refine (H2.out _).mono ?_
      rintro e w3 ⟨rfl, rfl⟩
      go_wp2_with fail
      refine (H3.out _).mono ?_
      rintro e w4 ⟨rfl, rfl⟩
      go_wp2_with fail
      refine (H4.out _).mono ?_
      rintro e w5 ⟨rfl, rfl⟩
      go_wp2
      go_ret
      exact ⟨by first | rfl | simp, rfl⟩
    go_enter Tryd.func49, Tryd.ntmps49
    go_wp2_with fail
    refine (H0.out _).mono ?_
    rintro e w1 ⟨rfl, rfl⟩
    go_wp2_with fail
    refine (H1.out _).mono ?_
    rintro e w2 ⟨rfl, rfl⟩
    go_wp2_with fail
    refine (H2.out _).mono ?_
    rintro e w3 ⟨rfl, rfl⟩
    go_wp2_with fail
    refine (H3.out _).mono ?_
    rintro e w4 ⟨rfl, rfl⟩
    go_wp2_with fail
    refine (H4.out _).mono ?_
    rintro e w5 ⟨rfl, rfl⟩
    go_wp2
    go_ret
    exact ⟨by first | rfl | simp, rfl⟩
theorem isDigit_r (c : Int) (w : World) : Calls Tryd.prog 51 #[.int .i64 c] w fun e w' => e = .returned (.bool (digitB c)) ∧ w = w' := by
  have H0 := Lib.hid (fun w => within_b c 48 57 w)
  have H1 := Lib.hid (fun w => within_b c 1632 1641 w)
  rw [show digitB c = (inB c 48 57 || inB c 1632 1641) from rfl]
  generalize inB c 48 57 = b0 at *
  generalize inB c 1632 1641 = b1 at *
  cases b0
  case true =>
    go_enter Tryd.func51, Tryd.ntmps51
    go_wp2_with fail
    refine (H0.out _).mono ?_
    rintro e w1 ⟨rfl, rfl⟩
    go_wp2
    go_ret
    exact ⟨by first | rfl | simp, rfl⟩
  go_enter Tryd.func51, Tryd.ntmps51
  go_wp2_with fail
  refine (H0.out _).mono ?_
  rintro e w1 ⟨rfl, rfl⟩
  go_wp2_with fail
  refine (H1.out _).mono ?_
  rintro e w2 ⟨rfl, rfl⟩
  go_wp2
  go_ret
  exact ⟨by first | rfl | simp, rfl⟩
theorem isMark_r (c : Int) (w : World) : Calls Tryd.prog 52 #[.int .i64 c] w fun e w' => e = .returned (.bool (markB c)) ∧ w = w' := by
  have H0 := Lib.hid (fun w => within_b c 768 879 w)
  go_enter Tryd.func52, Tryd.ntmps52
  go_wp2_with fail
  refine (H0.out _).mono ?_
  rintro e w1 ⟨rfl, rfl⟩
  go_wp2
  go_ret
  exact ⟨rfl, rfl⟩
theorem isBlank_r (c : Int) (w : World) : Calls Tryd.prog 53 #[.int .i64 c] w fun e w' => e = .returned (.bool (blankB c)) ∧ w = w' := by
  by_cases s : c = 32 ∨ c = 133 ∨ c = 160 ∨ c = 8232 ∨ c = 8233
  · rcases s with rfl | rfl | rfl | rfl | rfl
    all_goals
      go_enter Tryd.func53, Tryd.ntmps53
      go_wp2
      go_ret
      exact ⟨rfl, rfl⟩
  · obtain ⟨n0, n1, n2, n3, n4⟩ : ¬ c = 32 ∧ ¬ c = 133 ∧ ¬ c = 160 ∧ ¬ c = 8232 ∧ ¬ c = 8233 := by simpa only [not_or] using s
    clear s
    have m0 : (c == 32) = false := beq_eq_false_iff_ne.2 n0
    have m1 : (c == 133) = false := beq_eq_false_iff_ne.2 n1
    have m2 : (c == 160) = false := beq_eq_false_iff_ne.2 n2
    have m3 : (c == 8232) = false := beq_eq_false_iff_ne.2 n3
    have m4 : (c == 8233) = false := beq_eq_false_iff_ne.2 n4
    have E : blankB c = inB c 9 13 := by simp [blankB, m0, m1, m2, m3, m4]
    rw [E]; clear E
    have H0 := Lib.hid (fun w => within_b c 9 13 w)
    generalize inB c 9 13 = b0 at *
    go_enter Tryd.func53, Tryd.ntmps53
    go_wp2_with fail
    refine (H0.out _).mono ?_
    rintro e w1 ⟨rfl, rfl⟩
    go_wp2
    go_ret
    exact ⟨rfl, rfl⟩
theorem isLetter_r (c : Int) (w : World) : Calls Tryd.prog 50 #[.int .i64 c] w fun e w' => e = .returned (.bool (letterB c)) ∧ w = w' := by
  have H0 := Lib.hid (fun w => isUpper_r c w)
  have H1 := Lib.hid (fun w => isLower_r c w)
  rw [show letterB c = (upperB c || lowerB c || c == 170 || c == 186 || c == 700) from rfl]
  generalize upperB c = b0 at *
  generalize lowerB c = b1 at *
  cases b0
  case true =>
    go_enter Tryd.func50, Tryd.ntmps50
    go_wp2_with fail
    refine (H0.out _).mono ?_
    rintro e w1 ⟨rfl, rfl⟩
    go_wp2
    go_ret
    exact ⟨by first | rfl | simp, rfl⟩
  cases b1
  case true =>
    go_enter Tryd.func50, Tryd.ntmps50
    go_wp2_with fail
    refine (H0.out _).mono ?_
    rintro e w1 ⟨rfl, rfl⟩
    go_wp2_with fail
    refine (H1.out _).mono ?_
    rintro e w2 ⟨rfl, rfl⟩
    go_wp2
    go_ret
    exact ⟨by first | rfl | simp, rfl⟩
  by_cases s : c = 170 ∨ c = 186 ∨ c = 700
  · rcases s with rfl | rfl | rfl
    all_goals
      go_enter Tryd.func50, Tryd.ntmps50
      go_wp2_with fail
      refine (H0.out _).mono ?_
      rintro e w1 ⟨rfl, rfl⟩
      go_wp2_with fail
      refine (H1.out _).mono ?_
      rintro e w2 ⟨rfl, rfl⟩
      go_wp2
      go_ret
      exact ⟨by first | rfl | simp, rfl⟩
  · obtain ⟨n0, n1, n2⟩ : ¬ c = 170 ∧ ¬ c = 186 ∧ ¬ c = 700 := by simpa only [not_or] using s
    clear s
    have m0 : (c == 170) = false := beq_eq_false_iff_ne.2 n0
    have m1 : (c == 186) = false := beq_eq_false_iff_ne.2 n1
    have m2 : (c == 700) = false := beq_eq_false_iff_ne.2 n2
    rw [m0, m1, m2]
    go_enter Tryd.func50, Tryd.ntmps50
    go_wp2_with fail
    refine (H0.out _).mono ?_
    rintro e w1 ⟨rfl, rfl⟩
    go_wp2_with fail
    refine (H1.out _).mono ?_
    rintro e w2 ⟨rfl, rfl⟩
    go_wp2
    go_ret
    exact ⟨by first | rfl | simp, rfl⟩
theorem IsWord_r (c : Int) (w : World) : Calls Tryd.prog 54 #[.int .i64 c] w fun e w' => e = .returned (.bool (wordB c)) ∧ w = w' := by
  have H0 := Lib.hid (fun w => isLetter_r c w)
  have H1 := Lib.hid (fun w => isDigit_r c w)
  have H2 := Lib.hid (fun w => isMark_r c w)
  rw [show wordB c = (letterB c || digitB c || markB c || c == 95) from rfl]
  generalize letterB c = b0 at *
  generalize digitB c = b1 at *
  generalize markB c = b2 at *
  cases b0
  case true =>
    go_enter Tryd.func54, Tryd.ntmps54
    go_wp2_with fail
    refine (H0.out _).mono ?_
    rintro e w1 ⟨rfl, rfl⟩
    go_wp2
    go_ret
    exact ⟨by first | rfl | simp, rfl⟩
  cases b1
  case true =>
    go_enter Tryd.func54, Tryd.ntmps54
    go_wp2_with fail
    refine (H0.out _).mono ?_
    rintro e w1 ⟨rfl, rfl⟩
    go_wp2_with fail
    refine (H1.out _).mono ?_
    rintro e w2 ⟨rfl, rfl⟩
    go_wp2
    go_ret
    exact ⟨by first | rfl | simp, rfl⟩
  cases b2
  case true =>
    go_enter Tryd.func54, Tryd.ntmps54
    go_wp2_with fail
    refine (H0.out _).mono ?_
    rintro e w1 ⟨rfl, rfl⟩
    go_wp2_with fail
    refine (H1.out _).mono ?_
    rintro e w2 ⟨rfl, rfl⟩
    go_wp2_with fail
    refine (H2.out _).mono ?_
    rintro e w3 ⟨rfl, rfl⟩
    go_wp2
    go_ret
    exact ⟨by first | rfl | simp, rfl⟩
  by_cases s : c = 95
  · cases s
    all_goals
      go_enter Tryd.func54, Tryd.ntmps54
      go_wp2_with fail
      refine (H0.out _).mono ?_
      rintro e w1 ⟨rfl, rfl⟩
      go_wp2_with fail
      refine (H1.out _).mono ?_
      rintro e w2 ⟨rfl, rfl⟩
      go_wp2_with fail
      refine (H2.out _).mono ?_
      rintro e w3 ⟨rfl, rfl⟩
      go_wp2
      go_ret
      exact ⟨by first | rfl | simp, rfl⟩
  · have n0 := s
    clear s
    have m0 : (c == 95) = false := beq_eq_false_iff_ne.2 n0
    rw [m0]
    go_enter Tryd.func54, Tryd.ntmps54
    go_wp2_with fail
    refine (H0.out _).mono ?_
    rintro e w1 ⟨rfl, rfl⟩
    go_wp2_with fail
    refine (H1.out _).mono ?_
    rintro e w2 ⟨rfl, rfl⟩
    go_wp2_with fail
    refine (H2.out _).mono ?_
    rintro e w3 ⟨rfl, rfl⟩
    go_wp2
    go_ret
    exact ⟨by first | rfl | simp, rfl⟩
theorem ne_list {s : ByteArray} {l : List UInt8} (h : s ≠ ⟨l.toArray⟩) : (s.toList == l) = false := by
  rw [beq_eq_false_iff_ne]
  intro e
  rw [ByteArray.toList_eq] at e
  subst e
  exact h (by cases s; rfl)
/-- the classes by name -/
inductive Cl : ByteArray → (Int → Bool) → Prop
  | c_upper : Cl ⟨#[117, 112, 112, 101, 114]⟩ upperB
  | c_lower : Cl ⟨#[108, 111, 119, 101, 114]⟩ lowerB
  | c_letter : Cl ⟨#[108, 101, 116, 116, 101, 114]⟩ letterB
  | c_digit : Cl ⟨#[100, 105, 103, 105, 116]⟩ digitB
  | c_mark : Cl ⟨#[109, 97, 114, 107]⟩ markB
  | c_blank : Cl ⟨#[98, 108, 97, 110, 107]⟩ blankB
  | c_word : Cl ⟨#[119, 111, 114, 100]⟩ wordB
  | c_any : Cl ⟨#[97, 110, 121]⟩ (fun _ => true)
def NoCl (s : ByteArray) : Prop := s ≠ ⟨#[117, 112, 112, 101, 114]⟩ ∧ s ≠ ⟨#[108, 111, 119, 101, 114]⟩ ∧ s ≠ ⟨#[108, 101, 116, 116, 101, 114]⟩ ∧ s ≠ ⟨#[100, 105, 103, 105, 116]⟩ ∧ s ≠ ⟨#[109, 97, 114, 107]⟩ ∧ s ≠ ⟨#[98, 108, 97, 110, 107]⟩ ∧ s ≠ ⟨#[119, 111, 114, 100]⟩ ∧ s ≠ ⟨#[97, 110, 121]⟩
theorem cl_or (s : ByteArray) : (∃ q, Cl s q) ∨ NoCl s := by
  by_cases h0 : s = ⟨#[117, 112, 112, 101, 114]⟩
  · subst h0; exact .inl ⟨_, .c_upper⟩
  by_cases h1 : s = ⟨#[108, 111, 119, 101, 114]⟩
  · subst h1; exact .inl ⟨_, .c_lower⟩
  by_cases h2 : s = ⟨#[108, 101, 116, 116, 101, 114]⟩
  · subst h2; exact .inl ⟨_, .c_letter⟩
  by_cases h3 : s = ⟨#[100, 105, 103, 105, 116]⟩
  · subst h3; exact .inl ⟨_, .c_digit⟩
  by_cases h4 : s = ⟨#[109, 97, 114, 107]⟩
  · subst h4; exact .inl ⟨_, .c_mark⟩
  by_cases h5 : s = ⟨#[98, 108, 97, 110, 107]⟩
  · subst h5; exact .inl ⟨_, .c_blank⟩
  by_cases h6 : s = ⟨#[119, 111, 114, 100]⟩
  · subst h6; exact .inl ⟨_, .c_word⟩
  by_cases h7 : s = ⟨#[97, 110, 121]⟩
  · subst h7; exact .inl ⟨_, .c_any⟩
  exact .inr ⟨h0, h1, h2, h3, h4, h5, h6, h7⟩
theorem isClass_r {s : ByteArray} {q : Int → Bool} (h : Cl s q) (w : World) : Calls Tryd.prog 23 #[.string s] w fun e w' => e = .returned (.bool true) ∧ w = w' := by
  cases h
  all_goals
    go_enter Tryd.func23, Tryd.ntmps23
    go_wp2
    go_ret
    exact ⟨rfl, rfl⟩
theorem isClass_n {s : ByteArray} (h : NoCl s) (w : World) : Calls Tryd.prog 23 #[.string s] w fun e w' => e = .returned (.bool false) ∧ w = w' := by
  obtain ⟨h0, h1, h2, h3, h4, h5, h6, h7⟩ := h
  have k0 : (s.toList == [117, 112, 112, 101, 114]) = false := ne_list h0
  have k1 : (s.toList == [108, 111, 119, 101, 114]) = false := ne_list h1
  have k2 : (s.toList == [108, 101, 116, 116, 101, 114]) = false := ne_list h2
  have k3 : (s.toList == [100, 105, 103, 105, 116]) = false := ne_list h3
  have k4 : (s.toList == [109, 97, 114, 107]) = false := ne_list h4
  have k5 : (s.toList == [98, 108, 97, 110, 107]) = false := ne_list h5
  have k6 : (s.toList == [119, 111, 114, 100]) = false := ne_list h6
  have k7 : (s.toList == [97, 110, 121]) = false := ne_list h7
  go_enter Tryd.func23, Tryd.ntmps23
  go_wp2
  go_ret
  exact ⟨rfl, rfl⟩
theorem in_r {s : ByteArray} {q : Int → Bool} (h : Cl s q) (c : Int) (w : World) : Calls Tryd.prog 25 #[.int .i64 c, .string s] w fun e w' => e = .returned (.bool (q c)) ∧ w = w' := by
  cases h
  case c_upper =>
    have H := Lib.hid (fun w => isUpper_r c w)
    generalize upperB c = b at *
    go_enter Tryd.func25, Tryd.ntmps25
    go_wp2_with fail
    refine (H.out _).mono ?_
    rintro e w1 ⟨rfl, rfl⟩
    go_wp2
    go_ret
    exact ⟨rfl, rfl⟩
  case c_lower =>
    have H := Lib.hid (fun w => isLower_r c w)
    generalize lowerB c = b at *
    go_enter Tryd.func25, Tryd.ntmps25
    go_wp2_with fail
    refine (H.out _).mono ?_
    rintro e w1 ⟨rfl, rfl⟩
    go_wp2
    go_ret
    exact ⟨rfl, rfl⟩
  case c_letter =>
    have H := Lib.hid (fun w => isLetter_r c w)
    generalize letterB c = b at *
    go_enter Tryd.func25, Tryd.ntmps25
    go_wp2_with fail
    refine (H.out _).mono ?_
    rintro e w1 ⟨rfl, rfl⟩
    go_wp2
    go_ret
    exact ⟨rfl, rfl⟩
  case c_digit =>
    have H := Lib.hid (fun w => isDigit_r c w)
    generalize digitB c = b at *
    go_enter Tryd.func25, Tryd.ntmps25
    go_wp2_with fail
    refine (H.out _).mono ?_
    rintro e w1 ⟨rfl, rfl⟩
    go_wp2
    go_ret
    exact ⟨rfl, rfl⟩
  case c_mark =>
    have H := Lib.hid (fun w => isMark_r c w)
    generalize markB c = b at *
    go_enter Tryd.func25, Tryd.ntmps25
    go_wp2_with fail
    refine (H.out _).mono ?_
    rintro e w1 ⟨rfl, rfl⟩
    go_wp2
    go_ret
    exact ⟨rfl, rfl⟩
  case c_blank =>
    have H := Lib.hid (fun w => isBlank_r c w)
    generalize blankB c = b at *
    go_enter Tryd.func25, Tryd.ntmps25
    go_wp2_with fail
    refine (H.out _).mono ?_
    rintro e w1 ⟨rfl, rfl⟩
    go_wp2
    go_ret
    exact ⟨rfl, rfl⟩
  case c_word =>
    have H := Lib.hid (fun w => IsWord_r c w)
    generalize wordB c = b at *
    go_enter Tryd.func25, Tryd.ntmps25
    go_wp2_with fail
    refine (H.out _).mono ?_
    rintro e w1 ⟨rfl, rfl⟩
    go_wp2
    go_ret
    exact ⟨rfl, rfl⟩
  case c_any =>
    go_enter Tryd.func25, Tryd.ntmps25
    go_wp2
    go_ret
    exact ⟨rfl, rfl⟩
end Go.Proofs.YtiohoiebnpdkbaaDoor
