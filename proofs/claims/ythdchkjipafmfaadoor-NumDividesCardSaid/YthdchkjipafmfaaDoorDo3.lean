/- Do of package num: what each operation gives, for all numbers. -/
import Derived.Test.YthdchkjipafmfaaDoorPow2
import Derived.Test.YthdchkjipafmfaaDoorBit
namespace Go.Proofs.YthdchkjipafmfaaDoor
open Go.RowKit

theorem add_any (a b : Int) (ha : InR a) (hb : InR b) (w : World) : Calls Tryd.prog 92 #[.int .i64 a, .int .i64 b] w fun e w' => e = .returned (.int .i64 (a + b)) ∧ w = w' := by
  obtain ⟨a0, a1⟩ := ha
  obtain ⟨b0, b1⟩ := hb
  go_enter Tryd.func92, Tryd.ntmps92
  go_wp2
  go_ret
  exact ⟨rfl, rfl⟩
theorem sub_any (a b : Int) (ha : InR a) (hb : InR b) (w : World) : Calls Tryd.prog 93 #[.int .i64 a, .int .i64 b] w fun e w' => e = .returned (.int .i64 (a - b)) ∧ w = w' := by
  obtain ⟨a0, a1⟩ := ha
  obtain ⟨b0, b1⟩ := hb
  go_enter Tryd.func93, Tryd.ntmps93
  go_wp2
  go_ret
  exact ⟨rfl, rfl⟩
theorem and_any (a b : Nat) (ha : a ≤ 9007199254740992) (hb : b ≤ 9007199254740992) (w : World) : Calls Tryd.prog 98 #[.int .i64 (a : Int), .int .i64 (b : Int)] w fun e w' => e = .returned (.int .i64 ((a &&& b : Nat) : Int)) ∧ w = w' := by
  have H := Lib.hid (i64_and a b (by omega) (by omega))
  go_enter Tryd.func98, Tryd.ntmps98
  go_wp2
  go_ret
  exact ⟨by rw [← H.out]; rfl, rfl⟩
theorem or_any (a b : Nat) (ha : a ≤ 9007199254740992) (hb : b ≤ 9007199254740992) (w : World) : Calls Tryd.prog 99 #[.int .i64 (a : Int), .int .i64 (b : Int)] w fun e w' => e = .returned (.int .i64 ((a ||| b : Nat) : Int)) ∧ w = w' := by
  have H := Lib.hid (i64_or a b (by omega) (by omega))
  go_enter Tryd.func99, Tryd.ntmps99
  go_wp2
  go_ret
  exact ⟨by rw [← H.out]; rfl, rfl⟩
theorem xor_any (a b : Nat) (ha : a ≤ 9007199254740992) (hb : b ≤ 9007199254740992) (w : World) : Calls Tryd.prog 100 #[.int .i64 (a : Int), .int .i64 (b : Int)] w fun e w' => e = .returned (.int .i64 ((a ^^^ b : Nat) : Int)) ∧ w = w' := by
  have H := Lib.hid (i64_xor a b (by omega) (by omega))
  go_enter Tryd.func100, Tryd.ntmps100
  go_wp2
  go_ret
  exact ⟨by rw [← H.out]; rfl, rfl⟩

theorem refuse1_neg (a b : Int) (x y : Nat) (why : Int) (t : Bool) (h : decide (b < 0) = t) (w : World) (hx : w.cell? ⟨x, 0, none⟩ = some (.func (.func 89) #[] #[])) (hy : w.cell? ⟨y, 0, none⟩ = some (.int .i64 why)) :
    Calls Tryd.prog 120 #[.int .i64 a, .int .i64 b, .pointer (some ⟨x, 0, none⟩), .pointer (some ⟨y, 0, none⟩)] w fun e w' => e = .returned (.int .i64 (bif t then why else 0)) ∧ w = w' := by
  cases t
  · go_enter Tryd.func120, Tryd.ntmps120
    go_wp2
    go_ret
    exact ⟨rfl, rfl⟩
  · go_enter Tryd.func120, Tryd.ntmps120
    go_wp2
    go_ret
    exact ⟨rfl, rfl⟩
def neg2B (a b : Int) : Bool := decide (a < 0 ∨ b < 0)
theorem bad3_any (a b : Int) (w : World) : Calls Tryd.prog 90 #[.int .i64 a, .int .i64 b] w fun e w' => e = .returned (.bool (neg2B a b)) ∧ w = w' := by
  by_cases h1 : a < 0
  · have hv : Hid (neg2B a b = true) := Lib.hid (by simp [neg2B, h1])
    go_enter Tryd.func90, Tryd.ntmps90
    go_wp2
    go_ret
    exact ⟨by rw [hv.out]; rfl, rfl⟩
  · by_cases h2 : b < 0
    · have hv : Hid (neg2B a b = true) := Lib.hid (by simp [neg2B, h2])
      go_enter Tryd.func90, Tryd.ntmps90
      go_wp2
      go_ret
      exact ⟨by rw [hv.out]; rfl, rfl⟩
    · have hv : Hid (neg2B a b = false) := Lib.hid (by simp [neg2B]; omega)
      go_enter Tryd.func90, Tryd.ntmps90
      go_wp2
      go_ret
      exact ⟨by rw [hv.out]; rfl, rfl⟩
theorem refuse1_any (a b : Int) (x y : Nat) (why : Int) (t : Bool) (h : neg2B a b = t) (w : World) (hx : w.cell? ⟨x, 0, none⟩ = some (.func (.func 90) #[] #[])) (hy : w.cell? ⟨y, 0, none⟩ = some (.int .i64 why)) :
    Calls Tryd.prog 120 #[.int .i64 a, .int .i64 b, .pointer (some ⟨x, 0, none⟩), .pointer (some ⟨y, 0, none⟩)] w fun e w' => e = .returned (.int .i64 (bif t then why else 0)) ∧ w = w' := by
  have hc := fun w => bad3_any a b w
  rw [h] at hc
  have Hc := Lib.hid hc
  clear hc h
  cases t
  · go_enter Tryd.func120, Tryd.ntmps120
    go_wp2_with (go_at_call 90; refine (Hc.out _).mono ?_; rintro e w' ⟨rfl, rfl⟩)
    go_ret
    exact ⟨rfl, rfl⟩
  · go_enter Tryd.func120, Tryd.ntmps120
    go_wp2_with (go_at_call 90; refine (Hc.out _).mono ?_; rintro e w' ⟨rfl, rfl⟩)
    go_ret
    exact ⟨rfl, rfl⟩
/-- a result of a checked operation -/
abbrev fin1 (n : Int) : Int := bif isNumB n then n else 0
abbrev fin2 (n : Int) : Int := bif isNumB n then 0 else 1
end Go.Proofs.YthdchkjipafmfaaDoor
