/- The walks of NumDoes and NumDivides. -/
import Derived.Test.YthdchkjipafmfaaDoorDo6
import Derived.Test.YthdchkjipafmfaaDoorRDo
import Derived.Test.YthdchkjipafmfaaDoorKnown
namespace Go.Proofs.YthdchkjipafmfaaDoor
open Go.RowKit

def Both (op a b : Int) : Prop := ∃ x y z : Int, (∀ w, Calls Tryd.prog 28 #[.int .i64 op, .int .i64 a, .int .i64 b] w fun e w' => e = res3 x y z ∧ Gr w w') ∧ (∀ w, Calls Tryd.prog 27 #[.int .i64 op, .int .i64 a, .int .i64 b] w fun e w' => e = res3 x y z ∧ Gr w w')
theorem gr_of {f : FuncId} {args : Array Value} {w : World} {v : Ending} (h : Calls Tryd.prog f args w fun e w' => e = v ∧ w = w') : Calls Tryd.prog f args w fun e w' => e = v ∧ Gr w w' :=
  h.mono fun _ _ h => ⟨h.1, Gr.same h.2⟩
theorem both (op a b : Int) : Both op a b := by
  by_cases h : op < 0 ∨ 8 < op
  · exact ⟨_, _, _, fun w => do_none op a b w h, fun w => gr_of (rdo_none op a b w h)⟩
  by_cases hr : isNumB a = false ∨ isNumB b = false
  · exact ⟨_, _, _, fun w => do_range op a b w (by omega) (by omega) hr, fun w => gr_of (rdo_range op a b w (by omega) (by omega) hr)⟩
  have ha : isNumB a = true := by cases hh : isNumB a <;> simp [hh] at hr ⊢
  have hb : isNumB b = true := by cases hh : isNumB b <;> simp [hh] at hr ⊢
  have Ra := isNumB_true.1 ha
  have Rb := isNumB_true.1 hb
  obtain h | h | h | h | h | h | h | h | h : op = 0 ∨ op = 1 ∨ op = 2 ∨ op = 3 ∨ op = 4 ∨ op = 5 ∨ op = 6 ∨ op = 7 ∨ op = 8 := by omega
  · subst h; exact ⟨_, _, _, fun w => do0_ok a b _ w ha hb (fun w => add_any a b Ra Rb w), fun w => rdo0_ok a b w ha hb⟩
  · subst h; exact ⟨_, _, _, fun w => do1_ok a b _ w ha hb (fun w => sub_any a b Ra Rb w), fun w => rdo1_ok a b w ha hb⟩
  · subst h; exact ⟨_, _, _, fun w => do2_ok a b _ w ha hb (fun w => product_any a b Ra Rb w), fun w => rdo2_ok a b w ha hb⟩
  · subst h
    by_cases h0 : b = 0
    · exact ⟨_, _, _, fun w => do3_no a b w ha hb (by simpa using h0), fun w => rdo3_no a b w ha hb h0⟩
    · exact ⟨_, _, _, fun w => do3_ok a b _ w ha hb (by simpa using h0) (fun w => quotient_any a b w Ra h0), fun w => rdo3_ok a b w ha hb h0⟩
  · subst h
    by_cases h0 : b = 0
    · exact ⟨_, _, _, fun w => do4_no a b w ha hb (by simpa using h0), fun w => rdo4_no a b w ha hb h0⟩
    · exact ⟨_, _, _, fun w => do4_ok a b _ w ha hb (by simpa using h0) (fun w => remainder_any a b Ra Rb h0 w), fun w => rdo4_ok a b w ha hb h0⟩
  · subst h
    by_cases h0 : b < 0
    · exact ⟨_, _, _, fun w => do5_no a b w ha hb (by simpa using h0), fun w => rdo5_no a b w ha hb h0⟩
    · obtain ⟨B, rfl⟩ : ∃ B : Nat, b = (B : Int) := ⟨b.toNat, by omega⟩
      exact ⟨_, _, _, fun w => do5_ok a B _ w ha hb (by simp) (fun w => power_any a B Ra (by omega) w), fun w => rdo5_ok a B w ha hb⟩
  all_goals
    subst h
    cases hn : neg2B a b
  · have hn' := of_decide_eq_false hn
    obtain ⟨A, rfl⟩ : ∃ A : Nat, a = (A : Int) := ⟨a.toNat, by omega⟩
    obtain ⟨B, rfl⟩ : ∃ B : Nat, b = (B : Int) := ⟨b.toNat, by omega⟩
    exact ⟨_, _, _, fun w => do6_ok A B _ w ha hb hn (fun w => and_any A B (by omega) (by omega) w), fun w => rdo6_ok A B w ha hb⟩
  · exact ⟨_, _, _, fun w => do6_no a b w ha hb hn, fun w => rdo6_no a b w ha hb hn⟩
  · have hn' := of_decide_eq_false hn
    obtain ⟨A, rfl⟩ : ∃ A : Nat, a = (A : Int) := ⟨a.toNat, by omega⟩
    obtain ⟨B, rfl⟩ : ∃ B : Nat, b = (B : Int) := ⟨b.toNat, by omega⟩
    exact ⟨_, _, _, fun w => do7_ok A B _ w ha hb hn (fun w => or_any A B (by omega) (by omega) w), fun w => rdo7_ok A B w ha hb⟩
  · exact ⟨_, _, _, fun w => do7_no a b w ha hb hn, fun w => rdo7_no a b w ha hb hn⟩
  · have hn' := of_decide_eq_false hn
    obtain ⟨A, rfl⟩ : ∃ A : Nat, a = (A : Int) := ⟨a.toNat, by omega⟩
    obtain ⟨B, rfl⟩ : ∃ B : Nat, b = (B : Int) := ⟨b.toNat, by omega⟩
    exact ⟨_, _, _, fun w => do8_ok A B _ w ha hb hn (fun w => xor_any A B (by omega) (by omega) w), fun w => rdo8_ok A B w ha hb⟩
  · exact ⟨_, _, _, fun w => do8_no a b w ha hb hn, fun w => rdo8_no a b w ha hb hn⟩

theorem law_does (op a b : Int) (_h0 : -9223372036854775808 ≤ op ∧ op ≤ 9223372036854775807) (_h1 : -9223372036854775808 ≤ a ∧ a ≤ 9223372036854775807) (_h2 : -9223372036854775808 ≤ b ∧ b ≤ 9223372036854775807) (w : World) :
    Calls Tryd.prog 5 #[.int .i64 op, .int .i64 a, .int .i64 b] w fun e w' => e = .returned (.bool true) ∧ Gr w w' := by
  obtain ⟨x, y, z, h1, h2⟩ := both op a b
  have H1 := Lib.hid h1
  have H2 := Lib.hid h2
  clear h1 h2
  go_enter Tryd.func5, Tryd.ntmps5
  go_wp2_with fail
  refine (H2.out _).mono ?_
  rintro e w1 ⟨rfl, g1⟩
  go_wp2_with fail
  refine (H1.out _).mono ?_
  rintro e w2 ⟨rfl, g2⟩
  go_wp2_with fail
  refine (known_any _).mono ?_
  rintro e w3 ⟨rfl, g3⟩
  go_wp2
  go_ret
  exact ⟨rfl, (g1.trans g2).trans g3⟩

theorem fdiv_pos {a b M : Int} (ha : -M ≤ a ∧ a ≤ M) (hb : 0 < b) : -M ≤ a.fdiv b ∧ a.fdiv b ≤ M := by
  have hM : 0 ≤ M := by omega
  have h1 := Int.mul_fdiv_add_fmod a b
  have h2 := Int.fmod_nonneg_of_pos a hb
  have h3 := Int.fmod_lt_of_pos a hb
  generalize a.fdiv b = q at *
  constructor
  · apply Decidable.byContradiction
    intro h
    have h4 : q ≤ -M - 1 := by omega
    have h5 : b * q ≤ b * (-M - 1) := Int.mul_le_mul_of_nonneg_left h4 (by omega)
    have h6 : b * (-M - 1) = -(b * M) - b := by rw [Int.mul_sub, Int.mul_neg]; omega
    have h7 : M ≤ b * M := by have := Int.mul_le_mul_of_nonneg_right (show 1 ≤ b by omega) hM; omega
    omega
  · apply Decidable.byContradiction
    intro h
    have h4 : M + 1 ≤ q := by omega
    have h5 : b * (M + 1) ≤ b * q := Int.mul_le_mul_of_nonneg_left h4 (by omega)
    have h6 : b * (M + 1) = b * M + b := by rw [Int.mul_add]; omega
    have h7 : M ≤ b * M := by have := Int.mul_le_mul_of_nonneg_right (show 1 ≤ b by omega) hM; omega
    omega
theorem fdiv_num {a b : Int} (ha : InR a) (hb : ¬ b = 0) : isNumB (a.fdiv b) = true := by
  rw [isNumB_true]
  by_cases h : 0 < b
  · exact fdiv_pos ha h
  · have := fdiv_pos (a := -a) (b := -b) (M := 9007199254740992) (by unfold InR at ha; omega) (by omega)
    rwa [Int.neg_fdiv_neg] at this
theorem fmod_num {a b : Int} (hb : InR b) (h0 : ¬ b = 0) : isNumB (a.fmod b) = true := by
  rw [isNumB_true]
  have := fmod_bd a b
  unfold InR at hb
  by_cases h : 0 < b
  · have := this.1 h; omega
  · have := this.2 (by omega); omega

theorem law_divides (a b : Int) (_hA : -9223372036854775808 ≤ a ∧ a ≤ 9223372036854775807) (_hB : -9223372036854775808 ≤ b ∧ b ≤ 9223372036854775807) (w : World) :
    Calls Tryd.prog 6 #[.int .i64 a, .int .i64 b] w fun e w' => e = .returned (.bool true) ∧ Gr w w' := by
  by_cases hr : isNumB a = false ∨ isNumB b = false
  · have H1 := Lib.hid (fun w => do_range 3 a b w (by omega) (by omega) hr)
    have H2 := Lib.hid (fun w => do_range 4 a b w (by omega) (by omega) hr)
    clear hr
    go_enter Tryd.func6, Tryd.ntmps6
    go_wp2_with fail
    refine (H1.out _).mono ?_
    rintro e w1 ⟨rfl, g1⟩
    go_wp2_with fail
    refine (H2.out _).mono ?_
    rintro e w2 ⟨rfl, g2⟩
    go_wp2_with fail
    refine (known_any _).mono ?_
    rintro e w3 ⟨rfl, g3⟩
    go_wp2
    go_ret
    exact ⟨rfl, (g1.trans g2).trans g3⟩
  have ha : isNumB a = true := by cases hh : isNumB a <;> simp [hh] at hr ⊢
  have hb : isNumB b = true := by cases hh : isNumB b <;> simp [hh] at hr ⊢
  have Ra := isNumB_true.1 ha
  have Rb := isNumB_true.1 hb
  clear hr
  by_cases h0 : b = 0
  · have H1 := Lib.hid (fun w => do3_no a b w ha hb (by simpa using h0))
    have H2 := Lib.hid (fun w => do4_no a b w ha hb (by simpa using h0))
    have hb0 : (b == 0) = true := by simpa using h0
    clear h0 ha hb Ra Rb
    go_enter Tryd.func6, Tryd.ntmps6
    go_wp2_with fail
    refine (H1.out _).mono ?_
    rintro e w1 ⟨rfl, g1⟩
    go_wp2_with fail
    refine (H2.out _).mono ?_
    rintro e w2 ⟨rfl, g2⟩
    go_wp2_with fail
    refine (known_any _).mono ?_
    rintro e w3 ⟨rfl, g3⟩
    go_wp2
    go_ret
    exact ⟨rfl, (g1.trans g2).trans g3⟩
  · have H1 := fun w => do3_ok a b _ w ha hb (by simpa using h0) (fun w => quotient_any a b w Ra h0)
    have H2 := fun w => do4_ok a b _ w ha hb (by simpa using h0) (fun w => remainder_any a b Ra Rb h0 w)
    have e1 := fdiv_num Ra h0
    have e2 := fmod_num (a := a) Rb h0
    simp only [fin1, fin2, e1, e2, cond_true] at H1 H2
    have HH1 := Lib.hid H1
    have HH2 := Lib.hid H2
    have hsum := Int.mul_fdiv_add_fmod a b
    obtain ⟨m0, m1⟩ := mul_fdiv_bd Ra Rb h0
    have hs := fmod_bd a b
    have hq := isNumB_true.1 e1
    have hm := isNumB_true.1 e2
    clear H1 H2 e1 e2
    generalize a.fdiv b = q at *
    generalize a.fmod b = r at *
    have hsum' : (b * q + r == a) = true := by simpa using hsum
    have Hsum := Lib.hid hsum
    have hbz : (b == 0) = false := by simpa using h0
    obtain ⟨q0, q1⟩ := hq
    obtain ⟨r0, r1⟩ := hm
    obtain ⟨b0, b1⟩ := Rb
    obtain ⟨a0, a1⟩ := Ra
    clear hsum ha hb
    by_cases hr0 : r = 0
    · subst hr0
      have hs0 : (b * q == a) = true := by simpa using hsum'
      clear hs hsum'
      go_enter Tryd.func6, Tryd.ntmps6
      go_wp2_with fail
      refine (HH1.out _).mono ?_
      rintro e w1 ⟨rfl, g1⟩
      go_wp2_with fail
      refine (HH2.out _).mono ?_
      rintro e w2 ⟨rfl, g2⟩
      go_wp2_with fail
      refine (known_any _).mono ?_
      rintro e w3 ⟨rfl, g3⟩
      go_wp2
      go_ret
      exact ⟨rfl, (g1.trans g2).trans g3⟩
    · have hrz : (r == 0) = false := by simpa using hr0
      have hz : (r.natAbs : Int) < (b.natAbs : Int) := by omega
      by_cases hbp : 0 < b
      · have hrp : 0 < r := by have := hs.1 hbp; omega
        clear hs
        go_enter Tryd.func6, Tryd.ntmps6
        go_wp2_with fail
        refine (HH1.out _).mono ?_
        rintro e w1 ⟨rfl, g1⟩
        go_wp2_with fail
        refine (HH2.out _).mono ?_
        rintro e w2 ⟨rfl, g2⟩
        go_wp2_with (go_at_call 29; refine (refSize_any _ _ (by omega) (by omega)).mono ?_; rintro e w' ⟨rfl, rfl⟩)
        refine (known_any _).mono ?_
        rintro e w3 ⟨rfl, g3⟩
        go_wp2
        go_ret
        exact ⟨rfl, (g1.trans g2).trans g3⟩
      · have hrp : ¬ 0 < r := by have := hs.2 (by omega); omega
        clear hs
        go_enter Tryd.func6, Tryd.ntmps6
        go_wp2_with fail
        refine (HH1.out _).mono ?_
        rintro e w1 ⟨rfl, g1⟩
        go_wp2_with fail
        refine (HH2.out _).mono ?_
        rintro e w2 ⟨rfl, g2⟩
        go_wp2_with (go_at_call 29; refine (refSize_any _ _ (by omega) (by omega)).mono ?_; rintro e w' ⟨rfl, rfl⟩)
        refine (known_any _).mono ?_
        rintro e w3 ⟨rfl, g3⟩
        go_wp2
        go_ret
        exact ⟨rfl, (g1.trans g2).trans g3⟩
end Go.Proofs.YthdchkjipafmfaaDoor
