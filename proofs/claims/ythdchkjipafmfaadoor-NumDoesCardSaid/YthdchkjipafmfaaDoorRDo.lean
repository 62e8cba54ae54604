/- The reference's Do: each operation, for all numbers. -/
import Derived.Test.YthdchkjipafmfaaDoorDo3
namespace Go.Proofs.YthdchkjipafmfaaDoor
open Go.RowKit

abbrev rres3 (x y z : Int) : Ending := .returned (.tuple #[.int .i64 x, .int .i64 y, .int .i64 z])
theorem rdo_none (op a b : Int) (w : World) (h : op < 0 ∨ 8 < op) : Calls Tryd.prog 27 #[.int .i64 op, .int .i64 a, .int .i64 b] w fun e w' => e = rres3 0 0 1 ∧ w = w' := by
  by_cases h0 : op < 0
  · go_enter Tryd.func27, Tryd.ntmps27
    go_wp2
    go_ret3
    exact ⟨rfl, rfl⟩
  · have h8 : 8 < op := by omega
    clear h
    go_enter Tryd.func27, Tryd.ntmps27
    go_wp2
    go_ret3
    exact ⟨rfl, rfl⟩
theorem rdo_range (op a b : Int) (w : World) (h0 : 0 ≤ op) (h8 : op ≤ 8) (h : isNumB a = false ∨ isNumB b = false) : Calls Tryd.prog 27 #[.int .i64 op, .int .i64 a, .int .i64 b] w fun e w' => e = rres3 0 0 1 ∧ w = w' := by
  have H := Lib.hid h
  clear h
  cases ha : isNumB a
  · go_enter Tryd.func27, Tryd.ntmps27
    go_wp2_with (go_at_call 47; refine (isNum_any _ _).mono ?_; rintro e w' ⟨rfl, rfl⟩)
    go_ret3
    exact ⟨rfl, rfl⟩
  · have hb : isNumB b = false := by
      rcases H.out with h | h
      · rw [ha] at h; cases h
      · exact h
    go_enter Tryd.func27, Tryd.ntmps27
    go_wp2_with (go_at_call 47; refine (isNum_any _ _).mono ?_; rintro e w' ⟨rfl, rfl⟩)
    go_ret3
    exact ⟨rfl, rfl⟩
theorem rdo0_ok (a b : Int) (w : World) (ha : isNumB a = true) (hb : isNumB b = true) :
    Calls Tryd.prog 27 #[.int .i64 0, .int .i64 a, .int .i64 b] w fun e w' => e = rres3 (fin1 (a + b)) (fin2 (a + b)) 0 ∧ Gr w w' := by
  obtain ⟨a0, a1⟩ := isNumB_true.1 ha
  obtain ⟨b0, b1⟩ := isNumB_true.1 hb
  cases hn : isNumB (a + b)
  all_goals
    go_enter Tryd.func27, Tryd.ntmps27
    go_wp2_with (first | (go_at_call 47; refine (isNum_any _ _).mono ?_; rintro e w' ⟨rfl, rfl⟩))
    go_ret3
    exact ⟨by simp only [fin1, fin2, hn]; rfl, Gr.refl w⟩
theorem rdo1_ok (a b : Int) (w : World) (ha : isNumB a = true) (hb : isNumB b = true) :
    Calls Tryd.prog 27 #[.int .i64 1, .int .i64 a, .int .i64 b] w fun e w' => e = rres3 (fin1 (a - b)) (fin2 (a - b)) 0 ∧ Gr w w' := by
  obtain ⟨a0, a1⟩ := isNumB_true.1 ha
  obtain ⟨b0, b1⟩ := isNumB_true.1 hb
  cases hn : isNumB (a - b)
  all_goals
    go_enter Tryd.func27, Tryd.ntmps27
    go_wp2_with (first | (go_at_call 47; refine (isNum_any _ _).mono ?_; rintro e w' ⟨rfl, rfl⟩))
    go_ret3
    exact ⟨by simp only [fin1, fin2, hn]; rfl, Gr.refl w⟩
theorem rdo2_ok (a b : Int) (w : World) (ha : isNumB a = true) (hb : isNumB b = true) :
    Calls Tryd.prog 27 #[.int .i64 2, .int .i64 a, .int .i64 b] w fun e w' => e = rres3 (fin1 (prodZ a b)) (fin2 (prodZ a b)) 0 ∧ Gr w w' := by
  have Ha := Lib.hid (isNumB_true.1 ha)
  have Hb := Lib.hid (isNumB_true.1 hb)
  cases hn : isNumB (prodZ a b)
  all_goals
    go_enter Tryd.func27, Tryd.ntmps27
    go_wp2_with (first | (go_at_call 47; refine (isNum_any _ _).mono ?_; rintro e w' ⟨rfl, rfl⟩) | (go_at_call 57; refine (refProduct_any _ _ Ha.out Hb.out _).mono ?_; rintro e w' ⟨rfl, rfl⟩))
    go_ret3
    exact ⟨by simp only [fin1, fin2, hn]; rfl, Gr.refl w⟩
theorem rdo3_ok (a b : Int) (w : World) (ha : isNumB a = true) (hb : isNumB b = true) (h0 : ¬ b = 0) :
    Calls Tryd.prog 27 #[.int .i64 3, .int .i64 a, .int .i64 b] w fun e w' => e = rres3 (fin1 (a.fdiv b)) (fin2 (a.fdiv b)) 0 ∧ Gr w w' := by
  have Ha := Lib.hid (isNumB_true.1 ha)
  have h0b : (b == 0) = false := by simpa using h0
  cases hn : isNumB (a.fdiv b)
  all_goals
    go_enter Tryd.func27, Tryd.ntmps27
    go_wp2_with (first | (go_at_call 47; refine (isNum_any _ _).mono ?_; rintro e w' ⟨rfl, rfl⟩) | (go_at_call 58; refine (refQuotient_any _ _ Ha.out h0 _).mono ?_; rintro e w' ⟨rfl, rfl⟩))
    go_ret3
    exact ⟨by simp only [fin1, fin2, hn]; rfl, Gr.refl w⟩
theorem rdo4_ok (a b : Int) (w : World) (ha : isNumB a = true) (hb : isNumB b = true) (h0 : ¬ b = 0) :
    Calls Tryd.prog 27 #[.int .i64 4, .int .i64 a, .int .i64 b] w fun e w' => e = rres3 (fin1 (a.fmod b)) (fin2 (a.fmod b)) 0 ∧ Gr w w' := by
  have Ha := Lib.hid (isNumB_true.1 ha)
  have h0b : (b == 0) = false := by simpa using h0
  obtain ⟨m0, m1⟩ := mul_fdiv_bd (isNumB_true.1 ha) (isNumB_true.1 hb) h0
  obtain ⟨a0, a1⟩ := isNumB_true.1 ha
  rw [Int.fmod_def]
  cases hn : isNumB (a - b * a.fdiv b)
  all_goals
    go_enter Tryd.func27, Tryd.ntmps27
    go_wp2_with (first | (go_at_call 47; refine (isNum_any _ _).mono ?_; rintro e w' ⟨rfl, rfl⟩) | (go_at_call 58; refine (refQuotient_any _ _ Ha.out h0 _).mono ?_; rintro e w' ⟨rfl, rfl⟩))
    go_ret3
    exact ⟨by simp only [fin1, fin2, hn]; rfl, Gr.refl w⟩
theorem rdo5_ok (a : Int) (b : Nat) (w : World) (ha : isNumB a = true) (hb : isNumB (b : Int) = true) :
    Calls Tryd.prog 27 #[.int .i64 5, .int .i64 a, .int .i64 (b : Int)] w fun e w' => e = rres3 (fin1 (powZ a b)) (fin2 (powZ a b)) 0 ∧ Gr w w' := by
  have Ha := Lib.hid (isNumB_true.1 ha)
  have Hb := Lib.hid (isNumB_true.1 hb)
  cases hn : isNumB (powZ a b)
  all_goals
    go_enter Tryd.func27, Tryd.ntmps27
    go_wp2_with (first | (go_at_call 47; refine (isNum_any _ _).mono ?_; rintro e w' ⟨rfl, rfl⟩) | (go_at_call 59; refine (refPower_any _ _ Ha.out (by have := Hb.out; omega) _).mono ?_; rintro e w' ⟨rfl, rfl⟩))
    go_ret3
    exact ⟨by simp only [fin1, fin2, hn]; rfl, Gr.refl w⟩
theorem rdo6_ok (a b : Nat) (w : World) (ha : isNumB (a : Int) = true) (hb : isNumB (b : Int) = true) :
    Calls Tryd.prog 27 #[.int .i64 6, .int .i64 (a : Int), .int .i64 (b : Int)] w fun e w' => e = rres3 (fin1 (((a &&& b : Nat) : Int))) (fin2 (((a &&& b : Nat) : Int))) 0 ∧ Gr w w' := by
  have Ha := Lib.hid (isNumB_true.1 ha)
  have Hb := Lib.hid (isNumB_true.1 hb)
  have Hc := Lib.hid (fun w => refAnd_any a b (by have := Ha.out; omega) (by have := Hb.out; omega) w)
  generalize ((a &&& b : Nat) : Int) = n at *
  cases hn : isNumB n
  all_goals
    go_enter Tryd.func27, Tryd.ntmps27
    go_wp2_with (first | (go_at_call 47; refine (isNum_any _ _).mono ?_; rintro e w' ⟨rfl, rfl⟩) | (go_at_call 60; refine (Hc.out _).mono ?_; rintro e w1 ⟨rfl, hg⟩))
    go_ret3
    exact ⟨by simp only [fin1, fin2, hn]; rfl, hg⟩
theorem rdo7_ok (a b : Nat) (w : World) (ha : isNumB (a : Int) = true) (hb : isNumB (b : Int) = true) :
    Calls Tryd.prog 27 #[.int .i64 7, .int .i64 (a : Int), .int .i64 (b : Int)] w fun e w' => e = rres3 (fin1 (((a ||| b : Nat) : Int))) (fin2 (((a ||| b : Nat) : Int))) 0 ∧ Gr w w' := by
  have Ha := Lib.hid (isNumB_true.1 ha)
  have Hb := Lib.hid (isNumB_true.1 hb)
  have Hc := Lib.hid (fun w => refOr_any a b (by have := Ha.out; omega) (by have := Hb.out; omega) w)
  generalize ((a ||| b : Nat) : Int) = n at *
  cases hn : isNumB n
  all_goals
    go_enter Tryd.func27, Tryd.ntmps27
    go_wp2_with (first | (go_at_call 47; refine (isNum_any _ _).mono ?_; rintro e w' ⟨rfl, rfl⟩) | (go_at_call 60; refine (Hc.out _).mono ?_; rintro e w1 ⟨rfl, hg⟩))
    go_ret3
    exact ⟨by simp only [fin1, fin2, hn]; rfl, hg⟩
theorem rdo8_ok (a b : Nat) (w : World) (ha : isNumB (a : Int) = true) (hb : isNumB (b : Int) = true) :
    Calls Tryd.prog 27 #[.int .i64 8, .int .i64 (a : Int), .int .i64 (b : Int)] w fun e w' => e = rres3 (fin1 (((a ^^^ b : Nat) : Int))) (fin2 (((a ^^^ b : Nat) : Int))) 0 ∧ Gr w w' := by
  have Ha := Lib.hid (isNumB_true.1 ha)
  have Hb := Lib.hid (isNumB_true.1 hb)
  have Hc := Lib.hid (fun w => refXor_any a b (by have := Ha.out; omega) (by have := Hb.out; omega) w)
  generalize ((a ^^^ b : Nat) : Int) = n at *
  cases hn : isNumB n
  all_goals
    go_enter Tryd.func27, Tryd.ntmps27
    go_wp2_with (first | (go_at_call 47; refine (isNum_any _ _).mono ?_; rintro e w' ⟨rfl, rfl⟩) | (go_at_call 60; refine (Hc.out _).mono ?_; rintro e w1 ⟨rfl, hg⟩))
    go_ret3
    exact ⟨by simp only [fin1, fin2, hn]; rfl, hg⟩
theorem rdo3_no (a b : Int) (w : World) (ha : isNumB a = true) (hb : isNumB b = true) (h : b = 0) : Calls Tryd.prog 27 #[.int .i64 3, .int .i64 a, .int .i64 b] w fun e w' => e = rres3 0 2 0 ∧ Gr w w' := by
  subst h
  go_enter Tryd.func27, Tryd.ntmps27
  go_wp2_with (go_at_call 47; refine (isNum_any _ _).mono ?_; rintro e w' ⟨rfl, rfl⟩)
  go_ret3
  exact ⟨rfl, Gr.refl w⟩
theorem rdo4_no (a b : Int) (w : World) (ha : isNumB a = true) (hb : isNumB b = true) (h : b = 0) : Calls Tryd.prog 27 #[.int .i64 4, .int .i64 a, .int .i64 b] w fun e w' => e = rres3 0 2 0 ∧ Gr w w' := by
  subst h
  go_enter Tryd.func27, Tryd.ntmps27
  go_wp2_with (go_at_call 47; refine (isNum_any _ _).mono ?_; rintro e w' ⟨rfl, rfl⟩)
  go_ret3
  exact ⟨rfl, Gr.refl w⟩
theorem rdo5_no (a b : Int) (w : World) (ha : isNumB a = true) (hb : isNumB b = true) (h : b < 0) : Calls Tryd.prog 27 #[.int .i64 5, .int .i64 a, .int .i64 b] w fun e w' => e = rres3 0 1 0 ∧ Gr w w' := by
  skip
  go_enter Tryd.func27, Tryd.ntmps27
  go_wp2_with (go_at_call 47; refine (isNum_any _ _).mono ?_; rintro e w' ⟨rfl, rfl⟩)
  go_ret3
  exact ⟨rfl, Gr.refl w⟩
theorem rdo6_no (a b : Int) (w : World) (ha : isNumB a = true) (hb : isNumB b = true) (h : neg2B a b = true) : Calls Tryd.prog 27 #[.int .i64 6, .int .i64 a, .int .i64 b] w fun e w' => e = rres3 0 1 0 ∧ Gr w w' := by
  by_cases h1 : a < 0
  · clear h
    go_enter Tryd.func27, Tryd.ntmps27
    go_wp2_with (go_at_call 47; refine (isNum_any _ _).mono ?_; rintro e w' ⟨rfl, rfl⟩)
    go_ret3
    exact ⟨rfl, Gr.refl w⟩
  · have h2 : b < 0 := by
      have := of_decide_eq_true h
      omega
    clear h
    go_enter Tryd.func27, Tryd.ntmps27
    go_wp2_with (go_at_call 47; refine (isNum_any _ _).mono ?_; rintro e w' ⟨rfl, rfl⟩)
    go_ret3
    exact ⟨rfl, Gr.refl w⟩
theorem rdo7_no (a b : Int) (w : World) (ha : isNumB a = true) (hb : isNumB b = true) (h : neg2B a b = true) : Calls Tryd.prog 27 #[.int .i64 7, .int .i64 a, .int .i64 b] w fun e w' => e = rres3 0 1 0 ∧ Gr w w' := by
  by_cases h1 : a < 0
  · clear h
    go_enter Tryd.func27, Tryd.ntmps27
    go_wp2_with (go_at_call 47; refine (isNum_any _ _).mono ?_; rintro e w' ⟨rfl, rfl⟩)
    go_ret3
    exact ⟨rfl, Gr.refl w⟩
  · have h2 : b < 0 := by
      have := of_decide_eq_true h
      omega
    clear h
    go_enter Tryd.func27, Tryd.ntmps27
    go_wp2_with (go_at_call 47; refine (isNum_any _ _).mono ?_; rintro e w' ⟨rfl, rfl⟩)
    go_ret3
    exact ⟨rfl, Gr.refl w⟩
theorem rdo8_no (a b : Int) (w : World) (ha : isNumB a = true) (hb : isNumB b = true) (h : neg2B a b = true) : Calls Tryd.prog 27 #[.int .i64 8, .int .i64 a, .int .i64 b] w fun e w' => e = rres3 0 1 0 ∧ Gr w w' := by
  by_cases h1 : a < 0
  · clear h
    go_enter Tryd.func27, Tryd.ntmps27
    go_wp2_with (go_at_call 47; refine (isNum_any _ _).mono ?_; rintro e w' ⟨rfl, rfl⟩)
    go_ret3
    exact ⟨rfl, Gr.refl w⟩
  · have h2 : b < 0 := by
      have := of_decide_eq_true h
      omega
    clear h
    go_enter Tryd.func27, Tryd.ntmps27
    go_wp2_with (go_at_call 47; refine (isNum_any _ _).mono ?_; rintro e w' ⟨rfl, rfl⟩)
    go_ret3
    exact ⟨rfl, Gr.refl w⟩
end Go.Proofs.YthdchkjipafmfaaDoor
