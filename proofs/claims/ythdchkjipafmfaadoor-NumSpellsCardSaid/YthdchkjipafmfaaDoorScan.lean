/- Reading a text of digits in a base: the plain function, and the digit's values on both sides. -/
import Derived.Test.YthdchkjipafmfaaDoorOrd
import Derived.Test.YthdchkjipafmfaaDoorKnown
namespace Go.Proofs.YthdchkjipafmfaaDoor
open Go.RowKit Go.Shelf

/-- the value of a digit or letter, 16 when it is neither -/
def digV (c : Int) : Int := if 48 ≤ c ∧ c ≤ 57 then c - 48 else if 97 ≤ c ∧ c ≤ 102 then c - 87 else if 65 ≤ c ∧ c ≤ 70 then c - 55 else 16
theorem digV_bd (c : Int) : 0 ≤ digV c ∧ digV c ≤ 16 := by
  unfold digV
  by_cases h1 : 48 ≤ c ∧ c ≤ 57
  · rw [if_pos h1]; omega
  rw [if_neg h1]
  by_cases h2 : 97 ≤ c ∧ c ≤ 102
  · rw [if_pos h2]; omega
  rw [if_neg h2]
  by_cases h3 : 65 ≤ c ∧ c ≤ 70
  · rw [if_pos h3]; omega
  rw [if_neg h3]
  omega
theorem digV_95 : digV 95 = 16 := by decide
theorem digV_cases (c : Int) :
    (digB c = true ∧ digV c = c - 48) ∨ (digB c = false ∧ 97 ≤ c ∧ c ≤ 102 ∧ digV c = c - 87) ∨ (digB c = false ∧ c < 97 ∧ 65 ≤ c ∧ c ≤ 70 ∧ digV c = c - 55) ∨
    (digB c = false ∧ c < 97 ∧ (c < 65 ∨ 70 < c) ∧ digV c = 16) ∨ (digB c = false ∧ 102 < c ∧ digV c = 16) := by
  unfold digV
  by_cases h1 : 48 ≤ c ∧ c ≤ 57
  · exact .inl ⟨digB_true.2 h1, if_pos h1⟩
  have hb := digB_false.2 (show c < 48 ∨ 57 < c by omega)
  refine .inr ?_
  rw [if_neg h1]
  by_cases h2 : 97 ≤ c ∧ c ≤ 102
  · exact .inl ⟨hb, h2.1, h2.2, if_pos h2⟩
  refine .inr ?_
  rw [if_neg h2]
  by_cases h3 : 65 ≤ c ∧ c ≤ 70
  · exact .inl ⟨hb, by omega, h3.1, h3.2, if_pos h3⟩
  refine .inr ?_
  rw [if_neg h3]
  by_cases h4 : c < 97
  · exact .inl ⟨hb, h4, by omega, rfl⟩
  · exact .inr ⟨hb, by omega, rfl⟩
def scan (base : Int) : List UInt8 → Int → Bool → Option Int
  | [], n, b => if b = true then some n else none
  | c :: r, n, b => if (c.toNat : Int) = 95 ∧ b = true then scan base r n false else if base ≤ digV c.toNat then none
      else if 9007199254740992 < n * base + digV c.toNat then none else scan base r (n * base + digV c.toNat) true
variable {base : Int} {c : UInt8} {r : List UInt8} {n : Int} {b : Bool}
theorem scan_nil (n : Int) : scan base [] n true = some n := rfl
theorem scan_nil' (n : Int) : scan base [] n false = none := rfl
theorem scan_skip (h : ((c.toNat : Int) == 95) = true) : scan base (c :: r) n true = scan base r n false := by
  rw [scan, if_pos ⟨by simpa using h, rfl⟩]
theorem hno (h : ((c.toNat : Int) == 95) = false ∨ b = false) : ¬ ((c.toNat : Int) = 95 ∧ b = true) := by
  rintro ⟨h1, h2⟩
  rcases h with h | h
  · rw [h1] at h; cases h
  · rw [h] at h2; cases h2
theorem scan_bad (h : ((c.toNat : Int) == 95) = false ∨ b = false) (hd : base ≤ digV c.toNat) : scan base (c :: r) n b = none := by
  rw [scan, if_neg (by exact hno h), if_pos hd]
theorem scan_big (h : ((c.toNat : Int) == 95) = false ∨ b = false) (hd : ¬ base ≤ digV c.toNat) (hm : 9007199254740992 < n * base + digV c.toNat) : scan base (c :: r) n b = none := by
  rw [scan, if_neg (by exact hno h), if_neg hd, if_pos hm]
theorem scan_on (h : ((c.toNat : Int) == 95) = false ∨ b = false) (hd : ¬ base ≤ digV c.toNat) (hm : ¬ 9007199254740992 < n * base + digV c.toNat) : scan base (c :: r) n b = scan base r (n * base + digV c.toNat) true := by
  rw [scan, if_neg (by exact hno h), if_neg hd, if_neg hm]
theorem mul_bd {n base : Int} (h0 : 0 ≤ n) (hb : 2 ≤ base ∧ base ≤ 16) : 2 * n ≤ n * base ∧ n * base ≤ 16 * n := by
  obtain ⟨a, b⟩ := hb
  have e1 := Int.mul_le_mul_of_nonneg_left a h0
  have e2 := Int.mul_le_mul_of_nonneg_left b h0
  omega

theorem u8_wrap (b : UInt8) (d : Int) (h : d ≤ b.toNat) (h0 : 0 ≤ d) : IntKind.u8.wrap ((b.toNat : Int) - d) = (b.toNat : Int) - d := by
  have := b.toNat_lt
  go_unwrap
theorem digitOf_any (b : UInt8) (w : World) : Calls Tryd.prog 113 #[.int .u8 (b.toNat : Int)] w fun e w' => e = .returned (.int .i64 (digV b.toNat)) ∧ w = w' := by
  have h0 := b.toNat_lt
  have hc := digV_cases b.toNat
  have hW := fun d h h0 => u8_wrap b d h h0
  generalize digV (b.toNat : Int) = v at *
  generalize (b.toNat : Int) = c at *
  rcases hc with ⟨hb, rfl⟩ | ⟨hb, h1, h2, rfl⟩ | ⟨hb, h1, h2, h3, rfl⟩ | ⟨hb, h1, h2, rfl⟩ | ⟨hb, h1, rfl⟩
  · have := digB_true.1 hb
    have hw := hW 48 (by omega) (by omega)
    go_enter Tryd.func113, Tryd.ntmps113
    go_wp2_with (go_at_call 78; refine (isDigit_any _ _).mono ?_; rintro e w' ⟨rfl, rfl⟩)
    go_ret
    exact ⟨by congr 2, rfl⟩
  · have hw := hW 97 (by omega) (by omega)
    go_enter Tryd.func113, Tryd.ntmps113
    go_wp2_with (go_at_call 78; refine (isDigit_any _ _).mono ?_; rintro e w' ⟨rfl, rfl⟩)
    go_ret
    exact ⟨by show Ending.returned (Value.int .i64 (c - 97 + 10)) = _; congr 2; omega, rfl⟩
  · have hw := hW 65 (by omega) (by omega)
    go_enter Tryd.func113, Tryd.ntmps113
    go_wp2_with (go_at_call 78; refine (isDigit_any _ _).mono ?_; rintro e w' ⟨rfl, rfl⟩)
    go_ret
    exact ⟨by show Ending.returned (Value.int .i64 (c - 65 + 10)) = _; congr 2; omega, rfl⟩
  · rcases h2 with h2 | h2
    all_goals
      go_enter Tryd.func113, Tryd.ntmps113
      go_wp2_with (go_at_call 78; refine (isDigit_any _ _).mono ?_; rintro e w' ⟨rfl, rfl⟩)
      go_ret
      exact ⟨rfl, rfl⟩
  · go_enter Tryd.func113, Tryd.ntmps113
    go_wp2_with (go_at_call 78; refine (isDigit_any _ _).mono ?_; rintro e w' ⟨rfl, rfl⟩)
    go_ret
    exact ⟨rfl, rfl⟩
/-- what the reference's value gives -/
def valZ (base c : Int) : Int := if base ≤ digV c then -1 else digV c
theorem value_any (b : UInt8) (base : Int) (hb : 2 ≤ base ∧ base ≤ 16) (w : World) : Calls Tryd.prog 111 #[.int .u8 (b.toNat : Int), .int .i64 base] w fun e w' => e = .returned (.int .i64 (valZ base b.toNat)) ∧ w = w' := by
  have h0 := b.toNat_lt
  have hc := digV_cases b.toNat
  have hW := fun d h h0 => u8_wrap b d h h0
  have hz : (base ≤ digV b.toNat ∧ valZ base b.toNat = -1) ∨ (digV b.toNat < base ∧ valZ base b.toNat = digV b.toNat) := by
    unfold valZ
    by_cases h : base ≤ digV b.toNat
    · exact .inl ⟨h, if_pos h⟩
    · exact .inr ⟨by omega, if_neg h⟩
  generalize valZ base (b.toNat : Int) = z at *
  generalize digV (b.toNat : Int) = v at *
  generalize (b.toNat : Int) = c at *
  rcases hc with ⟨hb, rfl⟩ | ⟨hb, h1, h2, rfl⟩ | ⟨hb, h1, h2, h3, rfl⟩ | ⟨hb, h1, h2, rfl⟩ | ⟨hb, h1, rfl⟩
  · have := digB_true.1 hb
    have hw := hW 48 (by omega) (by omega)
    rcases hz with ⟨g, rfl⟩ | ⟨g, rfl⟩
    all_goals
      go_enter Tryd.func111, Tryd.ntmps111
      go_wp2_with (go_at_call 86; refine (digit_any _ _).mono ?_; rintro e w' ⟨rfl, rfl⟩)
      go_ret
      exact ⟨by first | rfl | (congr 2), rfl⟩
  · have hw := hW 97 (by omega) (by omega)
    rcases hz with ⟨g, rfl⟩ | ⟨g, rfl⟩
    all_goals
      go_enter Tryd.func111, Tryd.ntmps111
      go_wp2_with (go_at_call 86; refine (digit_any _ _).mono ?_; rintro e w' ⟨rfl, rfl⟩)
      go_ret
      exact ⟨by first | rfl | (show Ending.returned (Value.int .i64 (c - 97 + 10)) = _; congr 2; omega), rfl⟩
  · have hw := hW 65 (by omega) (by omega)
    rcases hz with ⟨g, rfl⟩ | ⟨g, rfl⟩
    all_goals
      go_enter Tryd.func111, Tryd.ntmps111
      go_wp2_with (go_at_call 86; refine (digit_any _ _).mono ?_; rintro e w' ⟨rfl, rfl⟩)
      go_ret
      exact ⟨by first | rfl | (show Ending.returned (Value.int .i64 (c - 65 + 10)) = _; congr 2; omega), rfl⟩
  · rcases hz with ⟨g, rfl⟩ | ⟨g, rfl⟩
    · rcases h2 with h2 | h2
      all_goals
        go_enter Tryd.func111, Tryd.ntmps111
        go_wp2_with (go_at_call 86; refine (digit_any _ _).mono ?_; rintro e w' ⟨rfl, rfl⟩)
        go_ret
        exact ⟨rfl, rfl⟩
    · omega
  · rcases hz with ⟨g, rfl⟩ | ⟨g, rfl⟩
    · go_enter Tryd.func111, Tryd.ntmps111
      go_wp2_with (go_at_call 86; refine (digit_any _ _).mono ?_; rintro e w' ⟨rfl, rfl⟩)
      go_ret
      exact ⟨rfl, rfl⟩
    · omega
end Go.Proofs.YthdchkjipafmfaaDoor
