/- The closures of package num's operations, first half. -/
import Derived.Test.YthdchkjipafmfaaDoorDo3
namespace Go.Proofs.YthdchkjipafmfaaDoor
open Go.RowKit

theorem op0_ok (a b n : Int) (q p : Nat) (w : World) (hq : w.cell? ⟨q, 0, none⟩ = some (.slice none 0 0)) (hp : w.cell? ⟨p, 0, none⟩ = some (.func (.func 92) #[] #[]))
    (hc : ∀ w, Calls Tryd.prog 92 #[.int .i64 a, .int .i64 b] w fun e w' => e = .returned (.int .i64 n) ∧ w = w') :
    Calls Tryd.prog 121 #[.int .i64 a, .int .i64 b, .pointer (some ⟨q, 0, none⟩), .pointer (some ⟨p, 0, none⟩)] w fun e w' => e = .returned (.tuple #[.int .i64 (fin1 n), .int .i64 (fin2 n)]) ∧ w = w' := by
  have Hc := Lib.hid hc
  clear hc
  cases hn : isNumB n
  all_goals
    go_enter Tryd.func121, Tryd.ntmps121
    go_wp2_with fail
    refine wp_loop_rounds 1 ?_
    rw [rounds_succ]
    go_wp2_with (first | (go_at_call 92; refine (Hc.out _).mono ?_; rintro e w' ⟨rfl, rfl⟩) | (go_at_call 62; refine (isNumber_any _ _).mono ?_; rintro e w' ⟨rfl, rfl⟩))
    go_ret2
    exact ⟨by simp only [fin1, fin2, hn]; rfl, rfl⟩

theorem op1_ok (a b n : Int) (q p : Nat) (w : World) (hq : w.cell? ⟨q, 0, none⟩ = some (.slice none 0 0)) (hp : w.cell? ⟨p, 0, none⟩ = some (.func (.func 93) #[] #[]))
    (hc : ∀ w, Calls Tryd.prog 93 #[.int .i64 a, .int .i64 b] w fun e w' => e = .returned (.int .i64 n) ∧ w = w') :
    Calls Tryd.prog 121 #[.int .i64 a, .int .i64 b, .pointer (some ⟨q, 0, none⟩), .pointer (some ⟨p, 0, none⟩)] w fun e w' => e = .returned (.tuple #[.int .i64 (fin1 n), .int .i64 (fin2 n)]) ∧ w = w' := by
  have Hc := Lib.hid hc
  clear hc
  cases hn : isNumB n
  all_goals
    go_enter Tryd.func121, Tryd.ntmps121
    go_wp2_with fail
    refine wp_loop_rounds 1 ?_
    rw [rounds_succ]
    go_wp2_with (first | (go_at_call 93; refine (Hc.out _).mono ?_; rintro e w' ⟨rfl, rfl⟩) | (go_at_call 62; refine (isNumber_any _ _).mono ?_; rintro e w' ⟨rfl, rfl⟩))
    go_ret2
    exact ⟨by simp only [fin1, fin2, hn]; rfl, rfl⟩

theorem op2_ok (a b n : Int) (q p : Nat) (w : World) (hq : w.cell? ⟨q, 0, none⟩ = some (.slice none 0 0)) (hp : w.cell? ⟨p, 0, none⟩ = some (.func (.func 94) #[] #[]))
    (hc : ∀ w, Calls Tryd.prog 94 #[.int .i64 a, .int .i64 b] w fun e w' => e = .returned (.int .i64 n) ∧ w = w') :
    Calls Tryd.prog 121 #[.int .i64 a, .int .i64 b, .pointer (some ⟨q, 0, none⟩), .pointer (some ⟨p, 0, none⟩)] w fun e w' => e = .returned (.tuple #[.int .i64 (fin1 n), .int .i64 (fin2 n)]) ∧ w = w' := by
  have Hc := Lib.hid hc
  clear hc
  cases hn : isNumB n
  all_goals
    go_enter Tryd.func121, Tryd.ntmps121
    go_wp2_with fail
    refine wp_loop_rounds 1 ?_
    rw [rounds_succ]
    go_wp2_with (first | (go_at_call 94; refine (Hc.out _).mono ?_; rintro e w' ⟨rfl, rfl⟩) | (go_at_call 62; refine (isNumber_any _ _).mono ?_; rintro e w' ⟨rfl, rfl⟩))
    go_ret2
    exact ⟨by simp only [fin1, fin2, hn]; rfl, rfl⟩

theorem op3_ok (a b n : Int) (q p r x y : Nat) (w : World) (hq : w.cell? ⟨q, 0, none⟩ = some (.slice (some ⟨r, 0, none⟩) 1 1)) (hp : w.cell? ⟨p, 0, none⟩ = some (.func (.func 95) #[] #[]))
    (hr : w.cell? ⟨r, 0, none⟩ = some (.func (.func 120) #[] #[.pointer (some ⟨x, 0, none⟩), .pointer (some ⟨y, 0, none⟩)])) (hx : w.cell? ⟨x, 0, none⟩ = some (.func (.func 88) #[] #[])) (hy : w.cell? ⟨y, 0, none⟩ = some (.int .i64 2))
    (hb : (b == 0) = false) (hc : ∀ w, Calls Tryd.prog 95 #[.int .i64 a, .int .i64 b] w fun e w' => e = .returned (.int .i64 n) ∧ w = w') :
    Calls Tryd.prog 121 #[.int .i64 a, .int .i64 b, .pointer (some ⟨q, 0, none⟩), .pointer (some ⟨p, 0, none⟩)] w fun e w' => e = .returned (.tuple #[.int .i64 (fin1 n), .int .i64 (fin2 n)]) ∧ w = w' := by
  have hk := refuse1_div a b x y 2 false hb w hx hy
  rw [cond_false] at hk
  have Hk := Lib.hid hk
  have Hc := Lib.hid hc
  clear hc hk hx hy hb
  cases hn : isNumB n
  all_goals
    go_enter Tryd.func121, Tryd.ntmps121
    go_wp2_with fail
    refine wp_loop_rounds 2 ?_
    rw [rounds_succ]
    go_wp2_with (go_at_call 120; refine Hk.out.mono ?_; rintro e w' ⟨rfl, rfl⟩)
    rw [rounds_succ]
    go_wp2_with (first | (go_at_call 95; refine (Hc.out _).mono ?_; rintro e w' ⟨rfl, rfl⟩) | (go_at_call 62; refine (isNumber_any _ _).mono ?_; rintro e w' ⟨rfl, rfl⟩))
    go_ret2
    exact ⟨by simp only [fin1, fin2, hn]; rfl, rfl⟩
theorem op3_no (a b : Int) (q p r x y : Nat) (w : World) (hq : w.cell? ⟨q, 0, none⟩ = some (.slice (some ⟨r, 0, none⟩) 1 1)) (_hp : w.cell? ⟨p, 0, none⟩ = some (.func (.func 95) #[] #[]))
    (hr : w.cell? ⟨r, 0, none⟩ = some (.func (.func 120) #[] #[.pointer (some ⟨x, 0, none⟩), .pointer (some ⟨y, 0, none⟩)])) (hx : w.cell? ⟨x, 0, none⟩ = some (.func (.func 88) #[] #[])) (hy : w.cell? ⟨y, 0, none⟩ = some (.int .i64 2))
    (hb : (b == 0) = true) :
    Calls Tryd.prog 121 #[.int .i64 a, .int .i64 b, .pointer (some ⟨q, 0, none⟩), .pointer (some ⟨p, 0, none⟩)] w fun e w' => e = .returned (.tuple #[.int .i64 0, .int .i64 2]) ∧ w = w' := by
  have hk := refuse1_div a b x y 2 true hb w hx hy
  rw [cond_true] at hk
  have Hk := Lib.hid hk
  clear hk hx hy hb
  go_enter Tryd.func121, Tryd.ntmps121
  go_wp2_with fail
  refine wp_loop_rounds 2 ?_
  rw [rounds_succ]
  go_wp2_with (go_at_call 120; refine Hk.out.mono ?_; rintro e w' ⟨rfl, rfl⟩)
  go_ret2
  exact ⟨rfl, rfl⟩

theorem op4_ok (a b n : Int) (q p r x y : Nat) (w : World) (hq : w.cell? ⟨q, 0, none⟩ = some (.slice (some ⟨r, 0, none⟩) 1 1)) (hp : w.cell? ⟨p, 0, none⟩ = some (.func (.func 96) #[] #[]))
    (hr : w.cell? ⟨r, 0, none⟩ = some (.func (.func 120) #[] #[.pointer (some ⟨x, 0, none⟩), .pointer (some ⟨y, 0, none⟩)])) (hx : w.cell? ⟨x, 0, none⟩ = some (.func (.func 88) #[] #[])) (hy : w.cell? ⟨y, 0, none⟩ = some (.int .i64 2))
    (hb : (b == 0) = false) (hc : ∀ w, Calls Tryd.prog 96 #[.int .i64 a, .int .i64 b] w fun e w' => e = .returned (.int .i64 n) ∧ w = w') :
    Calls Tryd.prog 121 #[.int .i64 a, .int .i64 b, .pointer (some ⟨q, 0, none⟩), .pointer (some ⟨p, 0, none⟩)] w fun e w' => e = .returned (.tuple #[.int .i64 (fin1 n), .int .i64 (fin2 n)]) ∧ w = w' := by
  have hk := refuse1_div a b x y 2 false hb w hx hy
  rw [cond_false] at hk
  have Hk := Lib.hid hk
  have Hc := Lib.hid hc
  clear hc hk hx hy hb
  cases hn : isNumB n
  all_goals
    go_enter Tryd.func121, Tryd.ntmps121
    go_wp2_with fail
    refine wp_loop_rounds 2 ?_
    rw [rounds_succ]
    go_wp2_with (go_at_call 120; refine Hk.out.mono ?_; rintro e w' ⟨rfl, rfl⟩)
    rw [rounds_succ]
    go_wp2_with (first | (go_at_call 96; refine (Hc.out _).mono ?_; rintro e w' ⟨rfl, rfl⟩) | (go_at_call 62; refine (isNumber_any _ _).mono ?_; rintro e w' ⟨rfl, rfl⟩))
    go_ret2
    exact ⟨by simp only [fin1, fin2, hn]; rfl, rfl⟩
theorem op4_no (a b : Int) (q p r x y : Nat) (w : World) (hq : w.cell? ⟨q, 0, none⟩ = some (.slice (some ⟨r, 0, none⟩) 1 1)) (_hp : w.cell? ⟨p, 0, none⟩ = some (.func (.func 96) #[] #[]))
    (hr : w.cell? ⟨r, 0, none⟩ = some (.func (.func 120) #[] #[.pointer (some ⟨x, 0, none⟩), .pointer (some ⟨y, 0, none⟩)])) (hx : w.cell? ⟨x, 0, none⟩ = some (.func (.func 88) #[] #[])) (hy : w.cell? ⟨y, 0, none⟩ = some (.int .i64 2))
    (hb : (b == 0) = true) :
    Calls Tryd.prog 121 #[.int .i64 a, .int .i64 b, .pointer (some ⟨q, 0, none⟩), .pointer (some ⟨p, 0, none⟩)] w fun e w' => e = .returned (.tuple #[.int .i64 0, .int .i64 2]) ∧ w = w' := by
  have hk := refuse1_div a b x y 2 true hb w hx hy
  rw [cond_true] at hk
  have Hk := Lib.hid hk
  clear hk hx hy hb
  go_enter Tryd.func121, Tryd.ntmps121
  go_wp2_with fail
  refine wp_loop_rounds 2 ?_
  rw [rounds_succ]
  go_wp2_with (go_at_call 120; refine Hk.out.mono ?_; rintro e w' ⟨rfl, rfl⟩)
  go_ret2
  exact ⟨rfl, rfl⟩

end Go.Proofs.YthdchkjipafmfaaDoor
