/- The closures of package num's operations, second half. -/
import Derived.Test.YthdchkjipafmfaaDoorDo3
namespace Go.Proofs.YthdchkjipafmfaaDoor
open Go.RowKit

theorem op5_ok (a b n : Int) (q p r x y : Nat) (w : World) (hq : w.cell? ⟨q, 0, none⟩ = some (.slice (some ⟨r, 0, none⟩) 1 1)) (hp : w.cell? ⟨p, 0, none⟩ = some (.func (.func 97) #[] #[]))
    (hr : w.cell? ⟨r, 0, none⟩ = some (.func (.func 120) #[] #[.pointer (some ⟨x, 0, none⟩), .pointer (some ⟨y, 0, none⟩)])) (hx : w.cell? ⟨x, 0, none⟩ = some (.func (.func 89) #[] #[])) (hy : w.cell? ⟨y, 0, none⟩ = some (.int .i64 1))
    (hb : decide (b < 0) = false) (hc : ∀ w, Calls Tryd.prog 97 #[.int .i64 a, .int .i64 b] w fun e w' => e = .returned (.int .i64 n) ∧ w = w') :
    Calls Tryd.prog 121 #[.int .i64 a, .int .i64 b, .pointer (some ⟨q, 0, none⟩), .pointer (some ⟨p, 0, none⟩)] w fun e w' => e = .returned (.tuple #[.int .i64 (fin1 n), .int .i64 (fin2 n)]) ∧ w = w' := by
  have hk := refuse1_neg a b x y 1 false hb w hx hy
  rw [cond_false] at hk
  have Hk := Lib.hid hk
  have Hc := Lib.hid hc
  clear hc hk hx hy hb
  cases hn : isNumB n
  all_goals
    go_enter Tryd.func121, Tryd.ntmps121
    go_wp2_with fail
    refine wp_loop_rounds 2 ?_
    rw [rounds_succ]
    go_wp2_with (go_at_call 120; refine Hk.out.mono ?_; rintro e w' ⟨rfl, rfl⟩)
    rw [rounds_succ]
    go_wp2_with (first | (go_at_call 97; refine (Hc.out _).mono ?_; rintro e w' ⟨rfl, rfl⟩) | (go_at_call 62; refine (isNumber_any _ _).mono ?_; rintro e w' ⟨rfl, rfl⟩))
    go_ret2
    exact ⟨by simp only [fin1, fin2, hn]; rfl, rfl⟩
theorem op5_no (a b : Int) (q p r x y : Nat) (w : World) (hq : w.cell? ⟨q, 0, none⟩ = some (.slice (some ⟨r, 0, none⟩) 1 1)) (_hp : w.cell? ⟨p, 0, none⟩ = some (.func (.func 97) #[] #[]))
    (hr : w.cell? ⟨r, 0, none⟩ = some (.func (.func 120) #[] #[.pointer (some ⟨x, 0, none⟩), .pointer (some ⟨y, 0, none⟩)])) (hx : w.cell? ⟨x, 0, none⟩ = some (.func (.func 89) #[] #[])) (hy : w.cell? ⟨y, 0, none⟩ = some (.int .i64 1))
    (hb : decide (b < 0) = true) :
    Calls Tryd.prog 121 #[.int .i64 a, .int .i64 b, .pointer (some ⟨q, 0, none⟩), .pointer (some ⟨p, 0, none⟩)] w fun e w' => e = .returned (.tuple #[.int .i64 0, .int .i64 1]) ∧ w = w' := by
  have hk := refuse1_neg a b x y 1 true hb w hx hy
  rw [cond_true] at hk
  have Hk := Lib.hid hk
  clear hk hx hy hb
  go_enter Tryd.func121, Tryd.ntmps121
  go_wp2_with fail
  refine wp_loop_rounds 2 ?_
  rw [rounds_succ]
  go_wp2_with (go_at_call 120; refine Hk.out.mono ?_; rintro e w' ⟨rfl, rfl⟩)
  go_ret2
  exact ⟨rfl, rfl⟩

theorem op6_ok (a b n : Int) (q p r x y : Nat) (w : World) (hq : w.cell? ⟨q, 0, none⟩ = some (.slice (some ⟨r, 0, none⟩) 1 1)) (hp : w.cell? ⟨p, 0, none⟩ = some (.func (.func 98) #[] #[]))
    (hr : w.cell? ⟨r, 0, none⟩ = some (.func (.func 120) #[] #[.pointer (some ⟨x, 0, none⟩), .pointer (some ⟨y, 0, none⟩)])) (hx : w.cell? ⟨x, 0, none⟩ = some (.func (.func 90) #[] #[])) (hy : w.cell? ⟨y, 0, none⟩ = some (.int .i64 1))
    (hb : neg2B a b = false) (hc : ∀ w, Calls Tryd.prog 98 #[.int .i64 a, .int .i64 b] w fun e w' => e = .returned (.int .i64 n) ∧ w = w') :
    Calls Tryd.prog 121 #[.int .i64 a, .int .i64 b, .pointer (some ⟨q, 0, none⟩), .pointer (some ⟨p, 0, none⟩)] w fun e w' => e = .returned (.tuple #[.int .i64 (fin1 n), .int .i64 (fin2 n)]) ∧ w = w' := by
  have hk := refuse1_any a b x y 1 false hb w hx hy
  rw [cond_false] at hk
  have Hk := Lib.hid hk
  have Hc := Lib.hid hc
  clear hc hk hx hy hb
  cases hn : isNumB n
  all_goals
    go_enter Tryd.func121, Tryd.ntmps121
    go_wp2_with fail
    refine wp_loop_rounds 2 ?_
    rw [rounds_succ]
    go_wp2_with (go_at_call 120; refine Hk.out.mono ?_; rintro e w' ⟨rfl, rfl⟩)
    rw [rounds_succ]
    go_wp2_with (first | (go_at_call 98; refine (Hc.out _).mono ?_; rintro e w' ⟨rfl, rfl⟩) | (go_at_call 62; refine (isNumber_any _ _).mono ?_; rintro e w' ⟨rfl, rfl⟩))
    go_ret2
    exact ⟨by simp only [fin1, fin2, hn]; rfl, rfl⟩
theorem op6_no (a b : Int) (q p r x y : Nat) (w : World) (hq : w.cell? ⟨q, 0, none⟩ = some (.slice (some ⟨r, 0, none⟩) 1 1)) (_hp : w.cell? ⟨p, 0, none⟩ = some (.func (.func 98) #[] #[]))
    (hr : w.cell? ⟨r, 0, none⟩ = some (.func (.func 120) #[] #[.pointer (some ⟨x, 0, none⟩), .pointer (some ⟨y, 0, none⟩)])) (hx : w.cell? ⟨x, 0, none⟩ = some (.func (.func 90) #[] #[])) (hy : w.cell? ⟨y, 0, none⟩ = some (.int .i64 1))
    (hb : neg2B a b = true) :
    Calls Tryd.prog 121 #[.int .i64 a, .int .i64 b, .pointer (some ⟨q, 0, none⟩), .pointer (some ⟨p, 0, none⟩)] w fun e w' => e = .returned (.tuple #[.int .i64 0, .int .i64 1]) ∧ w = w' := by
  have hk := refuse1_any a b x y 1 true hb w hx hy
  rw [cond_true] at hk
  have Hk := Lib.hid hk
  clear hk hx hy hb
  go_enter Tryd.func121, Tryd.ntmps121
  go_wp2_with fail
  refine wp_loop_rounds 2 ?_
  rw [rounds_succ]
  go_wp2_with (go_at_call 120; refine Hk.out.mono ?_; rintro e w' ⟨rfl, rfl⟩)
  go_ret2
  exact ⟨rfl, rfl⟩

theorem op7_ok (a b n : Int) (q p r x y : Nat) (w : World) (hq : w.cell? ⟨q, 0, none⟩ = some (.slice (some ⟨r, 0, none⟩) 1 1)) (hp : w.cell? ⟨p, 0, none⟩ = some (.func (.func 99) #[] #[]))
    (hr : w.cell? ⟨r, 0, none⟩ = some (.func (.func 120) #[] #[.pointer (some ⟨x, 0, none⟩), .pointer (some ⟨y, 0, none⟩)])) (hx : w.cell? ⟨x, 0, none⟩ = some (.func (.func 90) #[] #[])) (hy : w.cell? ⟨y, 0, none⟩ = some (.int .i64 1))
    (hb : neg2B a b = false) (hc : ∀ w, Calls Tryd.prog 99 #[.int .i64 a, .int .i64 b] w fun e w' => e = .returned (.int .i64 n) ∧ w = w') :
    Calls Tryd.prog 121 #[.int .i64 a, .int .i64 b, .pointer (some ⟨q, 0, none⟩), .pointer (some ⟨p, 0, none⟩)] w fun e w' => e = .returned (.tuple #[.int .i64 (fin1 n), .int .i64 (fin2 n)]) ∧ w = w' := by
  have hk := refuse1_any a b x y 1 false hb w hx hy
  rw [cond_false] at hk
  have Hk := Lib.hid hk
  have Hc := Lib.hid hc
  clear hc hk hx hy hb
  cases hn : isNumB n
  all_goals
    go_enter Tryd.func121, Tryd.ntmps121
    go_wp2_with fail
    refine wp_loop_rounds 2 ?_
    rw [rounds_succ]
    go_wp2_with (go_at_call 120; refine Hk.out.mono ?_; rintro e w' ⟨rfl, rfl⟩)
    rw [rounds_succ]
    go_wp2_with (first | (go_at_call 99; refine (Hc.out _).mono ?_; rintro e w' ⟨rfl, rfl⟩) | (go_at_call 62; refine (isNumber_any _ _).mono ?_; rintro e w' ⟨rfl, rfl⟩))
    go_ret2
    exact ⟨by simp only [fin1, fin2, hn]; rfl, rfl⟩
theorem op7_no (a b : Int) (q p r x y : Nat) (w : World) (hq : w.cell? ⟨q, 0, none⟩ = some (.slice (some ⟨r, 0, none⟩) 1 1)) (_hp : w.cell? ⟨p, 0, none⟩ = some (.func (.func 99) #[] #[]))
    (hr : w.cell? ⟨r, 0, none⟩ = some (.func (.func 120) #[] #[.pointer (some ⟨x, 0, none⟩), .pointer (some ⟨y, 0, none⟩)])) (hx : w.cell? ⟨x, 0, none⟩ = some (.func (.func 90) #[] #[])) (hy : w.cell? ⟨y, 0, none⟩ = some (.int .i64 1))
    (hb : neg2B a b = true) :
    Calls Tryd.prog 121 #[.int .i64 a, .int .i64 b, .pointer (some ⟨q, 0, none⟩), .pointer (some ⟨p, 0, none⟩)] w fun e w' => e = .returned (.tuple #[.int .i64 0, .int .i64 1]) ∧ w = w' := by
  have hk := refuse1_any a b x y 1 true hb w hx hy
  rw [cond_true] at hk
  have Hk := Lib.hid hk
  clear hk hx hy hb
  go_enter Tryd.func121, Tryd.ntmps121
  go_wp2_with fail
  refine wp_loop_rounds 2 ?_
  rw [rounds_succ]
  go_wp2_with (go_at_call 120; refine Hk.out.mono ?_; rintro e w' ⟨rfl, rfl⟩)
  go_ret2
  exact ⟨rfl, rfl⟩

theorem op8_ok (a b n : Int) (q p r x y : Nat) (w : World) (hq : w.cell? ⟨q, 0, none⟩ = some (.slice (some ⟨r, 0, none⟩) 1 1)) (hp : w.cell? ⟨p, 0, none⟩ = some (.func (.func 100) #[] #[]))
    (hr : w.cell? ⟨r, 0, none⟩ = some (.func (.func 120) #[] #[.pointer (some ⟨x, 0, none⟩), .pointer (some ⟨y, 0, none⟩)])) (hx : w.cell? ⟨x, 0, none⟩ = some (.func (.func 90) #[] #[])) (hy : w.cell? ⟨y, 0, none⟩ = some (.int .i64 1))
    (hb : neg2B a b = false) (hc : ∀ w, Calls Tryd.prog 100 #[.int .i64 a, .int .i64 b] w fun e w' => e = .returned (.int .i64 n) ∧ w = w') :
    Calls Tryd.prog 121 #[.int .i64 a, .int .i64 b, .pointer (some ⟨q, 0, none⟩), .pointer (some ⟨p, 0, none⟩)] w fun e w' => e = .returned (.tuple #[.int .i64 (fin1 n), .int .i64 (fin2 n)]) ∧ w = w' := by
  have hk := refuse1_any a b x y 1 false hb w hx hy
  rw [cond_false] at hk
  have Hk := Lib.hid hk
  have Hc := Lib.hid hc
  clear hc hk hx hy hb
  cases hn : isNumB n
  all_goals
    go_enter Tryd.func121, Tryd.ntmps121
    go_wp2_with fail
    refine wp_loop_rounds 2 ?_
    rw [rounds_succ]
    go_wp2_with (go_at_call 120; refine Hk.out.mono ?_; rintro e w' ⟨rfl, rfl⟩)
    rw [rounds_succ]
    go_wp2_with (first | (go_at_call 100; refine (Hc.out _).mono ?_; rintro e w' ⟨rfl, rfl⟩) | (go_at_call 62; refine (isNumber_any _ _).mono ?_; rintro e w' ⟨rfl, rfl⟩))
    go_ret2
    exact ⟨by simp only [fin1, fin2, hn]; rfl, rfl⟩
theorem op8_no (a b : Int) (q p r x y : Nat) (w : World) (hq : w.cell? ⟨q, 0, none⟩ = some (.slice (some ⟨r, 0, none⟩) 1 1)) (_hp : w.cell? ⟨p, 0, none⟩ = some (.func (.func 100) #[] #[]))
    (hr : w.cell? ⟨r, 0, none⟩ = some (.func (.func 120) #[] #[.pointer (some ⟨x, 0, none⟩), .pointer (some ⟨y, 0, none⟩)])) (hx : w.cell? ⟨x, 0, none⟩ = some (.func (.func 90) #[] #[])) (hy : w.cell? ⟨y, 0, none⟩ = some (.int .i64 1))
    (hb : neg2B a b = true) :
    Calls Tryd.prog 121 #[.int .i64 a, .int .i64 b, .pointer (some ⟨q, 0, none⟩), .pointer (some ⟨p, 0, none⟩)] w fun e w' => e = .returned (.tuple #[.int .i64 0, .int .i64 1]) ∧ w = w' := by
  have hk := refuse1_any a b x y 1 true hb w hx hy
  rw [cond_true] at hk
  have Hk := Lib.hid hk
  clear hk hx hy hb
  go_enter Tryd.func121, Tryd.ntmps121
  go_wp2_with fail
  refine wp_loop_rounds 2 ?_
  rw [rounds_succ]
  go_wp2_with (go_at_call 120; refine Hk.out.mono ?_; rintro e w' ⟨rfl, rfl⟩)
  go_ret2
  exact ⟨rfl, rfl⟩
end Go.Proofs.YthdchkjipafmfaaDoor
