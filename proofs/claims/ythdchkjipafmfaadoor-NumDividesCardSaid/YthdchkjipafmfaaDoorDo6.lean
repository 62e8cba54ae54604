/- Do of package num: each operation, for all numbers. -/
import Derived.Test.YthdchkjipafmfaaDoorDo4
import Derived.Test.YthdchkjipafmfaaDoorDo5
namespace Go.Proofs.YthdchkjipafmfaaDoor
open Go.RowKit

abbrev res3 (x y z : Int) : Ending := .returned (.tuple #[.int .i64 x, .int .i64 y, .int .i64 z])
theorem do_none (op a b : Int) (w : World) (h : op < 0 ∨ 8 < op) : Calls Tryd.prog 28 #[.int .i64 op, .int .i64 a, .int .i64 b] w fun e w' => e = res3 0 0 1 ∧ Gr w w' := by
  go_enter Tryd.func28, Tryd.ntmps28
  go_wp2_with fail
  refine (operations_any w).mono ?_
  rintro e w1 ⟨b0, d1, d2, d3, rfl, hS⟩
  have hl := hS.none op h
  have hg : Gr w w1 := hS.below
  clear hS h
  go_wp2
  go_ret3
  exact ⟨rfl, hg⟩
theorem do_range (op a b : Int) (w : World) (h0 : 0 ≤ op) (h8 : op ≤ 8) (h : isNumB a = false ∨ isNumB b = false) : Calls Tryd.prog 28 #[.int .i64 op, .int .i64 a, .int .i64 b] w fun e w' => e = res3 0 0 1 ∧ Gr w w' := by
  have H := Lib.hid h
  clear h
  go_enter Tryd.func28, Tryd.ntmps28
  go_wp2_with fail
  refine (operations_any w).mono ?_
  rintro e w1 ⟨b0, d1, d2, d3, rfl, hS⟩
  obtain ⟨v, hl, hop⟩ := hS.get op.toNat (by omega) op (by omega)
  obtain ⟨p, q, hp, hq, rfl, h1, h2⟩ := hop
  have hg : Gr w w1 := hS.below
  clear hS h1 h2 hp hq h0 h8
  cases ha : isNumB a
  · go_wp2_with (go_at_call 62; refine (isNumber_any _ _).mono ?_; rintro e w' ⟨rfl, rfl⟩)
    go_ret3
    exact ⟨rfl, hg⟩
  · have hb : isNumB b = false := by
      rcases H.out with h | h
      · rw [ha] at h; cases h
      · exact h
    go_wp2_with (go_at_call 62; refine (isNumber_any _ _).mono ?_; rintro e w' ⟨rfl, rfl⟩)
    go_ret3
    exact ⟨rfl, hg⟩
theorem do0_ok (a b n : Int) (w : World) (ha : isNumB a = true) (hb : isNumB b = true)
    (hc : ∀ w, Calls Tryd.prog 92 #[.int .i64 a, .int .i64 b] w fun e w' => e = .returned (.int .i64 n) ∧ w = w') :
    Calls Tryd.prog 28 #[.int .i64 0, .int .i64 a, .int .i64 b] w fun e w' => e = res3 (fin1 n) (fin2 n) 0 ∧ Gr w w' := by
  have HC := Lib.hid hc
  clear hc
  have HO := Lib.hid (fun q p w1 h2 h1 => op0_ok a b n q p w1 h2 h1 HC.out)
  generalize fin1 n = X at *
  generalize fin2 n = Y at *
  go_enter Tryd.func28, Tryd.ntmps28
  go_wp2_with fail
  refine (operations_any w).mono ?_
  rintro e w1 ⟨b0, d1, d2, d3, rfl, hS⟩
  obtain ⟨v, hl, hop⟩ := hS.get 0 (by omega) 0 rfl
  obtain ⟨p, q, hp, hq, rfl, h1, h2⟩ := hop
  rcases h2 with ⟨_, h2⟩ | ⟨f, why, r, u, h2, _⟩
  rotate_left
  · cases h2
  have Hc := Lib.hid (HO.out q p w1 h2 h1)
  clear h1 h2
  have hg : Gr w w1 := hS.below
  clear hS hp hq
  go_wp2_with (first | (go_at_call 62; refine (isNumber_any _ _).mono ?_; rintro e w' ⟨rfl, rfl⟩) | (go_at_call 121; refine Hc.out.mono ?_; rintro e w' ⟨rfl, rfl⟩))
  go_ret3
  exact ⟨rfl, hg⟩
theorem do1_ok (a b n : Int) (w : World) (ha : isNumB a = true) (hb : isNumB b = true)
    (hc : ∀ w, Calls Tryd.prog 93 #[.int .i64 a, .int .i64 b] w fun e w' => e = .returned (.int .i64 n) ∧ w = w') :
    Calls Tryd.prog 28 #[.int .i64 1, .int .i64 a, .int .i64 b] w fun e w' => e = res3 (fin1 n) (fin2 n) 0 ∧ Gr w w' := by
  have HC := Lib.hid hc
  clear hc
  have HO := Lib.hid (fun q p w1 h2 h1 => op1_ok a b n q p w1 h2 h1 HC.out)
  generalize fin1 n = X at *
  generalize fin2 n = Y at *
  go_enter Tryd.func28, Tryd.ntmps28
  go_wp2_with fail
  refine (operations_any w).mono ?_
  rintro e w1 ⟨b0, d1, d2, d3, rfl, hS⟩
  obtain ⟨v, hl, hop⟩ := hS.get 1 (by omega) 1 rfl
  obtain ⟨p, q, hp, hq, rfl, h1, h2⟩ := hop
  rcases h2 with ⟨_, h2⟩ | ⟨f, why, r, u, h2, _⟩
  rotate_left
  · cases h2
  have Hc := Lib.hid (HO.out q p w1 h2 h1)
  clear h1 h2
  have hg : Gr w w1 := hS.below
  clear hS hp hq
  go_wp2_with (first | (go_at_call 62; refine (isNumber_any _ _).mono ?_; rintro e w' ⟨rfl, rfl⟩) | (go_at_call 121; refine Hc.out.mono ?_; rintro e w' ⟨rfl, rfl⟩))
  go_ret3
  exact ⟨rfl, hg⟩
theorem do2_ok (a b n : Int) (w : World) (ha : isNumB a = true) (hb : isNumB b = true)
    (hc : ∀ w, Calls Tryd.prog 94 #[.int .i64 a, .int .i64 b] w fun e w' => e = .returned (.int .i64 n) ∧ w = w') :
    Calls Tryd.prog 28 #[.int .i64 2, .int .i64 a, .int .i64 b] w fun e w' => e = res3 (fin1 n) (fin2 n) 0 ∧ Gr w w' := by
  have HC := Lib.hid hc
  clear hc
  have HO := Lib.hid (fun q p w1 h2 h1 => op2_ok a b n q p w1 h2 h1 HC.out)
  generalize fin1 n = X at *
  generalize fin2 n = Y at *
  go_enter Tryd.func28, Tryd.ntmps28
  go_wp2_with fail
  refine (operations_any w).mono ?_
  rintro e w1 ⟨b0, d1, d2, d3, rfl, hS⟩
  obtain ⟨v, hl, hop⟩ := hS.get 2 (by omega) 2 rfl
  obtain ⟨p, q, hp, hq, rfl, h1, h2⟩ := hop
  rcases h2 with ⟨_, h2⟩ | ⟨f, why, r, u, h2, _⟩
  rotate_left
  · cases h2
  have Hc := Lib.hid (HO.out q p w1 h2 h1)
  clear h1 h2
  have hg : Gr w w1 := hS.below
  clear hS hp hq
  go_wp2_with (first | (go_at_call 62; refine (isNumber_any _ _).mono ?_; rintro e w' ⟨rfl, rfl⟩) | (go_at_call 121; refine Hc.out.mono ?_; rintro e w' ⟨rfl, rfl⟩))
  go_ret3
  exact ⟨rfl, hg⟩
theorem do3_ok (a b n : Int) (w : World) (ha : isNumB a = true) (hb : isNumB b = true) (hbad : (b == 0) = false)
    (hc : ∀ w, Calls Tryd.prog 95 #[.int .i64 a, .int .i64 b] w fun e w' => e = .returned (.int .i64 n) ∧ w = w') :
    Calls Tryd.prog 28 #[.int .i64 3, .int .i64 a, .int .i64 b] w fun e w' => e = res3 (fin1 n) (fin2 n) 0 ∧ Gr w w' := by
  have HC := Lib.hid hc
  have HB := Lib.hid hbad
  clear hc hbad
  have HO := Lib.hid (fun q p r x y w1 h4 h1 h5 h8 h9 => op3_ok a b n q p r x y w1 h4 h1 h5 h8 h9 HB.out HC.out)
  generalize fin1 n = X at *
  generalize fin2 n = Y at *
  go_enter Tryd.func28, Tryd.ntmps28
  go_wp2_with fail
  refine (operations_any w).mono ?_
  rintro e w1 ⟨b0, d1, d2, d3, rfl, hS⟩
  obtain ⟨v, hl, hop⟩ := hS.get 3 (by omega) 3 rfl
  obtain ⟨p, q, hp, hq, rfl, h1, h2⟩ := hop
  rcases h2 with ⟨h2, _⟩ | ⟨f, why, r, u, h2, h3, h4, h5, x, y, h6, h7, rfl, h8, h9⟩
  · cases h2
  cases h2
  have Hc := Lib.hid (HO.out q p r x y w1 h4 h1 h5 h8 h9)
  clear h1 h4 h5 h8 h9 h3 h6 h7
  have hg : Gr w w1 := hS.below
  clear hS hp hq
  go_wp2_with (first | (go_at_call 62; refine (isNumber_any _ _).mono ?_; rintro e w' ⟨rfl, rfl⟩) | (go_at_call 121; refine Hc.out.mono ?_; rintro e w' ⟨rfl, rfl⟩))
  go_ret3
  exact ⟨rfl, hg⟩
theorem do3_no (a b : Int) (w : World) (ha : isNumB a = true) (hb : isNumB b = true) (hbad : (b == 0) = true) :
    Calls Tryd.prog 28 #[.int .i64 3, .int .i64 a, .int .i64 b] w fun e w' => e = res3 0 2 0 ∧ Gr w w' := by
  have HB := Lib.hid hbad
  clear hbad
  go_enter Tryd.func28, Tryd.ntmps28
  go_wp2_with fail
  refine (operations_any w).mono ?_
  rintro e w1 ⟨b0, d1, d2, d3, rfl, hS⟩
  obtain ⟨v, hl, hop⟩ := hS.get 3 (by omega) 3 rfl
  obtain ⟨p, q, hp, hq, rfl, h1, h2⟩ := hop
  rcases h2 with ⟨h2, _⟩ | ⟨f, why, r, u, h2, h3, h4, h5, x, y, h6, h7, rfl, h8, h9⟩
  · cases h2
  cases h2
  have Hc := Lib.hid (op3_no a b q p r x y w1 h4 h1 h5 h8 h9 HB.out)
  clear h1 h4 h5 h8 h9 h3 h6 h7
  have hg : Gr w w1 := hS.below
  clear hS hp hq
  go_wp2_with (first | (go_at_call 62; refine (isNumber_any _ _).mono ?_; rintro e w' ⟨rfl, rfl⟩) | (go_at_call 121; refine Hc.out.mono ?_; rintro e w' ⟨rfl, rfl⟩))
  go_ret3
  exact ⟨rfl, hg⟩
theorem do4_ok (a b n : Int) (w : World) (ha : isNumB a = true) (hb : isNumB b = true) (hbad : (b == 0) = false)
    (hc : ∀ w, Calls Tryd.prog 96 #[.int .i64 a, .int .i64 b] w fun e w' => e = .returned (.int .i64 n) ∧ w = w') :
    Calls Tryd.prog 28 #[.int .i64 4, .int .i64 a, .int .i64 b] w fun e w' => e = res3 (fin1 n) (fin2 n) 0 ∧ Gr w w' := by
  have HC := Lib.hid hc
  have HB := Lib.hid hbad
  clear hc hbad
  have HO := Lib.hid (fun q p r x y w1 h4 h1 h5 h8 h9 => op4_ok a b n q p r x y w1 h4 h1 h5 h8 h9 HB.out HC.out)
  generalize fin1 n = X at *
  generalize fin2 n = Y at *
  go_enter Tryd.func28, Tryd.ntmps28
  go_wp2_with fail
  refine (operations_any w).mono ?_
  rintro e w1 ⟨b0, d1, d2, d3, rfl, hS⟩
  obtain ⟨v, hl, hop⟩ := hS.get 4 (by omega) 4 rfl
  obtain ⟨p, q, hp, hq, rfl, h1, h2⟩ := hop
  rcases h2 with ⟨h2, _⟩ | ⟨f, why, r, u, h2, h3, h4, h5, x, y, h6, h7, rfl, h8, h9⟩
  · cases h2
  cases h2
  have Hc := Lib.hid (HO.out q p r x y w1 h4 h1 h5 h8 h9)
  clear h1 h4 h5 h8 h9 h3 h6 h7
  have hg : Gr w w1 := hS.below
  clear hS hp hq
  go_wp2_with (first | (go_at_call 62; refine (isNumber_any _ _).mono ?_; rintro e w' ⟨rfl, rfl⟩) | (go_at_call 121; refine Hc.out.mono ?_; rintro e w' ⟨rfl, rfl⟩))
  go_ret3
  exact ⟨rfl, hg⟩
theorem do4_no (a b : Int) (w : World) (ha : isNumB a = true) (hb : isNumB b = true) (hbad : (b == 0) = true) :
    Calls Tryd.prog 28 #[.int .i64 4, .int .i64 a, .int .i64 b] w fun e w' => e = res3 0 2 0 ∧ Gr w w' := by
  have HB := Lib.hid hbad
  clear hbad
  go_enter Tryd.func28, Tryd.ntmps28
  go_wp2_with fail
  refine (operations_any w).mono ?_
  rintro e w1 ⟨b0, d1, d2, d3, rfl, hS⟩
  obtain ⟨v, hl, hop⟩ := hS.get 4 (by omega) 4 rfl
  obtain ⟨p, q, hp, hq, rfl, h1, h2⟩ := hop
  rcases h2 with ⟨h2, _⟩ | ⟨f, why, r, u, h2, h3, h4, h5, x, y, h6, h7, rfl, h8, h9⟩
  · cases h2
  cases h2
  have Hc := Lib.hid (op4_no a b q p r x y w1 h4 h1 h5 h8 h9 HB.out)
  clear h1 h4 h5 h8 h9 h3 h6 h7
  have hg : Gr w w1 := hS.below
  clear hS hp hq
  go_wp2_with (first | (go_at_call 62; refine (isNumber_any _ _).mono ?_; rintro e w' ⟨rfl, rfl⟩) | (go_at_call 121; refine Hc.out.mono ?_; rintro e w' ⟨rfl, rfl⟩))
  go_ret3
  exact ⟨rfl, hg⟩
theorem do5_ok (a b n : Int) (w : World) (ha : isNumB a = true) (hb : isNumB b = true) (hbad : decide (b < 0) = false)
    (hc : ∀ w, Calls Tryd.prog 97 #[.int .i64 a, .int .i64 b] w fun e w' => e = .returned (.int .i64 n) ∧ w = w') :
    Calls Tryd.prog 28 #[.int .i64 5, .int .i64 a, .int .i64 b] w fun e w' => e = res3 (fin1 n) (fin2 n) 0 ∧ Gr w w' := by
  have HC := Lib.hid hc
  have HB := Lib.hid hbad
  clear hc hbad
  have HO := Lib.hid (fun q p r x y w1 h4 h1 h5 h8 h9 => op5_ok a b n q p r x y w1 h4 h1 h5 h8 h9 HB.out HC.out)
  generalize fin1 n = X at *
  generalize fin2 n = Y at *
  go_enter Tryd.func28, Tryd.ntmps28
  go_wp2_with fail
  refine (operations_any w).mono ?_
  rintro e w1 ⟨b0, d1, d2, d3, rfl, hS⟩
  obtain ⟨v, hl, hop⟩ := hS.get 5 (by omega) 5 rfl
  obtain ⟨p, q, hp, hq, rfl, h1, h2⟩ := hop
  rcases h2 with ⟨h2, _⟩ | ⟨f, why, r, u, h2, h3, h4, h5, x, y, h6, h7, rfl, h8, h9⟩
  · cases h2
  cases h2
  have Hc := Lib.hid (HO.out q p r x y w1 h4 h1 h5 h8 h9)
  clear h1 h4 h5 h8 h9 h3 h6 h7
  have hg : Gr w w1 := hS.below
  clear hS hp hq
  go_wp2_with (first | (go_at_call 62; refine (isNumber_any _ _).mono ?_; rintro e w' ⟨rfl, rfl⟩) | (go_at_call 121; refine Hc.out.mono ?_; rintro e w' ⟨rfl, rfl⟩))
  go_ret3
  exact ⟨rfl, hg⟩
theorem do5_no (a b : Int) (w : World) (ha : isNumB a = true) (hb : isNumB b = true) (hbad : decide (b < 0) = true) :
    Calls Tryd.prog 28 #[.int .i64 5, .int .i64 a, .int .i64 b] w fun e w' => e = res3 0 1 0 ∧ Gr w w' := by
  have HB := Lib.hid hbad
  clear hbad
  go_enter Tryd.func28, Tryd.ntmps28
  go_wp2_with fail
  refine (operations_any w).mono ?_
  rintro e w1 ⟨b0, d1, d2, d3, rfl, hS⟩
  obtain ⟨v, hl, hop⟩ := hS.get 5 (by omega) 5 rfl
  obtain ⟨p, q, hp, hq, rfl, h1, h2⟩ := hop
  rcases h2 with ⟨h2, _⟩ | ⟨f, why, r, u, h2, h3, h4, h5, x, y, h6, h7, rfl, h8, h9⟩
  · cases h2
  cases h2
  have Hc := Lib.hid (op5_no a b q p r x y w1 h4 h1 h5 h8 h9 HB.out)
  clear h1 h4 h5 h8 h9 h3 h6 h7
  have hg : Gr w w1 := hS.below
  clear hS hp hq
  go_wp2_with (first | (go_at_call 62; refine (isNumber_any _ _).mono ?_; rintro e w' ⟨rfl, rfl⟩) | (go_at_call 121; refine Hc.out.mono ?_; rintro e w' ⟨rfl, rfl⟩))
  go_ret3
  exact ⟨rfl, hg⟩
theorem do6_ok (a b n : Int) (w : World) (ha : isNumB a = true) (hb : isNumB b = true) (hbad : neg2B a b = false)
    (hc : ∀ w, Calls Tryd.prog 98 #[.int .i64 a, .int .i64 b] w fun e w' => e = .returned (.int .i64 n) ∧ w = w') :
    Calls Tryd.prog 28 #[.int .i64 6, .int .i64 a, .int .i64 b] w fun e w' => e = res3 (fin1 n) (fin2 n) 0 ∧ Gr w w' := by
  have HC := Lib.hid hc
  have HB := Lib.hid hbad
  clear hc hbad
  have HO := Lib.hid (fun q p r x y w1 h4 h1 h5 h8 h9 => op6_ok a b n q p r x y w1 h4 h1 h5 h8 h9 HB.out HC.out)
  generalize fin1 n = X at *
  generalize fin2 n = Y at *
  go_enter Tryd.func28, Tryd.ntmps28
  go_wp2_with fail
  refine (operations_any w).mono ?_
  rintro e w1 ⟨b0, d1, d2, d3, rfl, hS⟩
  obtain ⟨v, hl, hop⟩ := hS.get 6 (by omega) 6 rfl
  obtain ⟨p, q, hp, hq, rfl, h1, h2⟩ := hop
  rcases h2 with ⟨h2, _⟩ | ⟨f, why, r, u, h2, h3, h4, h5, x, y, h6, h7, rfl, h8, h9⟩
  · cases h2
  cases h2
  have Hc := Lib.hid (HO.out q p r x y w1 h4 h1 h5 h8 h9)
  clear h1 h4 h5 h8 h9 h3 h6 h7
  have hg : Gr w w1 := hS.below
  clear hS hp hq
  go_wp2_with (first | (go_at_call 62; refine (isNumber_any _ _).mono ?_; rintro e w' ⟨rfl, rfl⟩) | (go_at_call 121; refine Hc.out.mono ?_; rintro e w' ⟨rfl, rfl⟩))
  go_ret3
  exact ⟨rfl, hg⟩
theorem do6_no (a b : Int) (w : World) (ha : isNumB a = true) (hb : isNumB b = true) (hbad : neg2B a b = true) :
    Calls Tryd.prog 28 #[.int .i64 6, .int .i64 a, .int .i64 b] w fun e w' => e = res3 0 1 0 ∧ Gr w w' := by
  have HB := Lib.hid hbad
  clear hbad
  go_enter Tryd.func28, Tryd.ntmps28
  go_wp2_with fail
  refine (operations_any w).mono ?_
  rintro e w1 ⟨b0, d1, d2, d3, rfl, hS⟩
  obtain ⟨v, hl, hop⟩ := hS.get 6 (by omega) 6 rfl
  obtain ⟨p, q, hp, hq, rfl, h1, h2⟩ := hop
  rcases h2 with ⟨h2, _⟩ | ⟨f, why, r, u, h2, h3, h4, h5, x, y, h6, h7, rfl, h8, h9⟩
  · cases h2
  cases h2
  have Hc := Lib.hid (op6_no a b q p r x y w1 h4 h1 h5 h8 h9 HB.out)
  clear h1 h4 h5 h8 h9 h3 h6 h7
  have hg : Gr w w1 := hS.below
  clear hS hp hq
  go_wp2_with (first | (go_at_call 62; refine (isNumber_any _ _).mono ?_; rintro e w' ⟨rfl, rfl⟩) | (go_at_call 121; refine Hc.out.mono ?_; rintro e w' ⟨rfl, rfl⟩))
  go_ret3
  exact ⟨rfl, hg⟩
theorem do7_ok (a b n : Int) (w : World) (ha : isNumB a = true) (hb : isNumB b = true) (hbad : neg2B a b = false)
    (hc : ∀ w, Calls Tryd.prog 99 #[.int .i64 a, .int .i64 b] w fun e w' => e = .returned (.int .i64 n) ∧ w = w') :
    Calls Tryd.prog 28 #[.int .i64 7, .int .i64 a, .int .i64 b] w fun e w' => e = res3 (fin1 n) (fin2 n) 0 ∧ Gr w w' := by
  have HC := Lib.hid hc
  have HB := Lib.hid hbad
  clear hc hbad
  have HO := Lib.hid (fun q p r x y w1 h4 h1 h5 h8 h9 => op7_ok a b n q p r x y w1 h4 h1 h5 h8 h9 HB.out HC.out)
  generalize fin1 n = X at *
  generalize fin2 n = Y at *
  go_enter Tryd.func28, Tryd.ntmps28
  go_wp2_with fail
  refine (operations_any w).mono ?_
  rintro e w1 ⟨b0, d1, d2, d3, rfl, hS⟩
  obtain ⟨v, hl, hop⟩ := hS.get 7 (by omega) 7 rfl
  obtain ⟨p, q, hp, hq, rfl, h1, h2⟩ := hop
  rcases h2 with ⟨h2, _⟩ | ⟨f, why, r, u, h2, h3, h4, h5, x, y, h6, h7, rfl, h8, h9⟩
  · cases h2
  cases h2
  have Hc := Lib.hid (HO.out q p r x y w1 h4 h1 h5 h8 h9)
  clear h1 h4 h5 h8 h9 h3 h6 h7
  have hg : Gr w w1 := hS.below
  clear hS hp hq
  go_wp2_with (first | (go_at_call 62; refine (isNumber_any _ _).mono ?_; rintro e w' ⟨rfl, rfl⟩) | (go_at_call 121; refine Hc.out.mono ?_; rintro e w' ⟨rfl, rfl⟩))
  go_ret3
  exact ⟨rfl, hg⟩
theorem do7_no (a b : Int) (w : World) (ha : isNumB a = true) (hb : isNumB b = true) (hbad : neg2B a b = true) :
    Calls Tryd.prog 28 #[.int .i64 7, .int .i64 a, .int .i64 b] w fun e w' => e = res3 0 1 0 ∧ Gr w w' := by
  have HB := Lib.hid hbad
  clear hbad
  go_enter Tryd.func28, Tryd.ntmps28
  go_wp2_with fail
  refine (operations_any w).mono ?_
  rintro e w1 ⟨b0, d1, d2, d3, rfl, hS⟩
  obtain ⟨v, hl, hop⟩ := hS.get 7 (by omega) 7 rfl
  obtain ⟨p, q, hp, hq, rfl, h1, h2⟩ := hop
  rcases h2 with ⟨h2, _⟩ | ⟨f, why, r, u, h2, h3, h4, h5, x, y, h6, h7, rfl, h8, h9⟩
  · cases h2
  cases h2
  have Hc := Lib.hid (op7_no a b q p r x y w1 h4 h1 h5 h8 h9 HB.out)
  clear h1 h4 h5 h8 h9 h3 h6 h7
  have hg : Gr w w1 := hS.below
  clear hS hp hq
  go_wp2_with (first | (go_at_call 62; refine (isNumber_any _ _).mono ?_; rintro e w' ⟨rfl, rfl⟩) | (go_at_call 121; refine Hc.out.mono ?_; rintro e w' ⟨rfl, rfl⟩))
  go_ret3
  exact ⟨rfl, hg⟩
theorem do8_ok (a b n : Int) (w : World) (ha : isNumB a = true) (hb : isNumB b = true) (hbad : neg2B a b = false)
    (hc : ∀ w, Calls Tryd.prog 100 #[.int .i64 a, .int .i64 b] w fun e w' => e = .returned (.int .i64 n) ∧ w = w') :
    Calls Tryd.prog 28 #[.int .i64 8, .int .i64 a, .int .i64 b] w fun e w' => e = res3 (fin1 n) (fin2 n) 0 ∧ Gr w w' := by
  have HC := Lib.hid hc
  have HB := Lib.hid hbad
  clear hc hbad
  have HO := Lib.hid (fun q p r x y w1 h4 h1 h5 h8 h9 => op8_ok a b n q p r x y w1 h4 h1 h5 h8 h9 HB.out HC.out)
  generalize fin1 n = X at *
  generalize fin2 n = Y at *
  go_enter Tryd.func28, Tryd.ntmps28
  go_wp2_with fail
  refine (operations_any w).mono ?_
  rintro e w1 ⟨b0, d1, d2, d3, rfl, hS⟩
  obtain ⟨v, hl, hop⟩ := hS.get 8 (by omega) 8 rfl
  obtain ⟨p, q, hp, hq, rfl, h1, h2⟩ := hop
  rcases h2 with ⟨h2, _⟩ | ⟨f, why, r, u, h2, h3, h4, h5, x, y, h6, h7, rfl, h8, h9⟩
  · cases h2
  cases h2
  have Hc := Lib.hid (HO.out q p r x y w1 h4 h1 h5 h8 h9)
  clear h1 h4 h5 h8 h9 h3 h6 h7
  have hg : Gr w w1 := hS.below
  clear hS hp hq
  go_wp2_with (first | (go_at_call 62; refine (isNumber_any _ _).mono ?_; rintro e w' ⟨rfl, rfl⟩) | (go_at_call 121; refine Hc.out.mono ?_; rintro e w' ⟨rfl, rfl⟩))
  go_ret3
  exact ⟨rfl, hg⟩
theorem do8_no (a b : Int) (w : World) (ha : isNumB a = true) (hb : isNumB b = true) (hbad : neg2B a b = true) :
    Calls Tryd.prog 28 #[.int .i64 8, .int .i64 a, .int .i64 b] w fun e w' => e = res3 0 1 0 ∧ Gr w w' := by
  have HB := Lib.hid hbad
  clear hbad
  go_enter Tryd.func28, Tryd.ntmps28
  go_wp2_with fail
  refine (operations_any w).mono ?_
  rintro e w1 ⟨b0, d1, d2, d3, rfl, hS⟩
  obtain ⟨v, hl, hop⟩ := hS.get 8 (by omega) 8 rfl
  obtain ⟨p, q, hp, hq, rfl, h1, h2⟩ := hop
  rcases h2 with ⟨h2, _⟩ | ⟨f, why, r, u, h2, h3, h4, h5, x, y, h6, h7, rfl, h8, h9⟩
  · cases h2
  cases h2
  have Hc := Lib.hid (op8_no a b q p r x y w1 h4 h1 h5 h8 h9 HB.out)
  clear h1 h4 h5 h8 h9 h3 h6 h7
  have hg : Gr w w1 := hS.below
  clear hS hp hq
  go_wp2_with (first | (go_at_call 62; refine (isNumber_any _ _).mono ?_; rintro e w' ⟨rfl, rfl⟩) | (go_at_call 121; refine Hc.out.mono ?_; rintro e w' ⟨rfl, rfl⟩))
  go_ret3
  exact ⟨rfl, hg⟩
end Go.Proofs.YthdchkjipafmfaaDoor
