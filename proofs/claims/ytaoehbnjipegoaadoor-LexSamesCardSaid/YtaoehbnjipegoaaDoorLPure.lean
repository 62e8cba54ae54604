/- The scanners' tests of single bytes, of both sides. -/
import Derived.Test.YtaoehbnjipegoaaDoorCLib
import Derived.Test.YtaoehbnjipegoaaDoorCShelf6
namespace Go.Proofs.YtaoehbnjipegoaaDoor
open Go.RowKit Go.Shelf
def alphaB (x : Int) : Bool := (decide (97 ≤ x) && decide (x ≤ 122)) || (decide (65 ≤ x) && decide (x ≤ 90)) || x == 95
def digB (x : Int) : Bool := decide (48 ≤ x) && decide (x ≤ 57)
def blkB (x : Int) : Bool := x == 32 || x == 9 || x == 10
def partI (x : Int) : Int := if x = 40 then 41 else if x = 91 then 93 else if x = 123 then 125 else if x = 60 then 62 else x
def partR (x : Int) : Int := if x = 40 then 41 else if x = 91 then 93 else if x = 123 then 125 else if x = 60 then 62 else if x = 47 ∨ x = 33 ∨ x = 124 ∨ x = 126 ∨ x = 39 ∨ x = 34 then x else 0
def delimB (x : Int) : Bool := decide (0 ≤ Lib.indexByte [40, 91, 123, 60, 47, 33, 124, 126, 39, 34] x.toNat.toUInt8)
def sigilB (x : Int) : Bool := decide (0 ≤ Lib.indexByte [36, 64, 37, 38] x.toNat.toUInt8)
def specB (x : Int) : Bool := decide (0 ≤ Lib.indexByte [64, 38, 49, 50, 51, 52, 53, 54, 55, 56, 57] x.toNat.toUInt8)
theorem alpha_p (x : Int) (w : World) : Calls Tryd.prog 27 #[.int .u8 x] w fun e w' => e = .returned (.bool (alphaB x)) ∧ w = w' := by
  have hall : (97 ≤ x ∧ x ≤ 122) ∨ (122 < x) ∨ (65 ≤ x ∧ x ≤ 90) ∨ (x = 95) ∨ (90 < x ∧ x < 97 ∧ x ≠ 95) ∨ (x < 65) := by omega
  rcases hall with h | h | h | h | h | h
  · have E : alphaB x = true := by simp [alphaB]; omega
    rw [E]; clear E
    have t0 : 97 ≤ x := by omega
    have t1 : x ≤ 122 := by omega
    clear h
    go_enter Tryd.func27, Tryd.ntmps27
    go_wp2
    go_ret
    exact ⟨by first | rfl | simp, rfl⟩
  · have E : alphaB x = false := by simp [alphaB]; omega
    rw [E]; clear E
    have t0 : 97 ≤ x := by omega
    have t1 : ¬ x ≤ 122 := by omega
    have t2 : 65 ≤ x := by omega
    have t3 : ¬ x ≤ 90 := by omega
    have t4 : (x == 95) = false := by simp; omega
    clear h
    go_enter Tryd.func27, Tryd.ntmps27
    go_wp2
    go_ret
    exact ⟨by first | rfl | simp, rfl⟩
  · have E : alphaB x = true := by simp [alphaB]; omega
    rw [E]; clear E
    have t0 : ¬ 97 ≤ x := by omega
    have t1 : 65 ≤ x := by omega
    have t2 : x ≤ 90 := by omega
    clear h
    go_enter Tryd.func27, Tryd.ntmps27
    go_wp2
    go_ret
    exact ⟨by first | rfl | simp, rfl⟩
  · have E : alphaB x = true := by simp [alphaB]; omega
    rw [E]; clear E
    have t0 : ¬ 97 ≤ x := by omega
    have t1 : 65 ≤ x := by omega
    have t2 : ¬ x ≤ 90 := by omega
    have t3 : (x == 95) = true := by simp; omega
    clear h
    go_enter Tryd.func27, Tryd.ntmps27
    go_wp2
    go_ret
    exact ⟨by first | rfl | simp, rfl⟩
  · have E : alphaB x = false := by simp [alphaB]; omega
    rw [E]; clear E
    have t0 : ¬ 97 ≤ x := by omega
    have t1 : 65 ≤ x := by omega
    have t2 : ¬ x ≤ 90 := by omega
    have t3 : (x == 95) = false := by simp; omega
    clear h
    go_enter Tryd.func27, Tryd.ntmps27
    go_wp2
    go_ret
    exact ⟨by first | rfl | simp, rfl⟩
  · have E : alphaB x = false := by simp [alphaB]; omega
    rw [E]; clear E
    have t0 : ¬ 97 ≤ x := by omega
    have t1 : ¬ 65 ≤ x := by omega
    have t2 : (x == 95) = false := by simp; omega
    clear h
    go_enter Tryd.func27, Tryd.ntmps27
    go_wp2
    go_ret
    exact ⟨by first | rfl | simp, rfl⟩
theorem alpha_r (x : Int) (w : World) : Calls Tryd.prog 30 #[.int .u8 x] w fun e w' => e = .returned (.bool (alphaB x)) ∧ w = w' := by
  have hall : (97 ≤ x ∧ x ≤ 122) ∨ (122 < x) ∨ (65 ≤ x ∧ x ≤ 90) ∨ (x = 95) ∨ (90 < x ∧ x < 97 ∧ x ≠ 95) ∨ (x < 65) := by omega
  rcases hall with h | h | h | h | h | h
  · have E : alphaB x = true := by simp [alphaB]; omega
    rw [E]; clear E
    have t0 : 97 ≤ x := by omega
    have t1 : x ≤ 122 := by omega
    clear h
    go_enter Tryd.func30, Tryd.ntmps30
    go_wp2
    go_ret
    exact ⟨by first | rfl | simp, rfl⟩
  · have E : alphaB x = false := by simp [alphaB]; omega
    rw [E]; clear E
    have t0 : 97 ≤ x := by omega
    have t1 : ¬ x ≤ 122 := by omega
    have t2 : 65 ≤ x := by omega
    have t3 : ¬ x ≤ 90 := by omega
    have t4 : (x == 95) = false := by simp; omega
    clear h
    go_enter Tryd.func30, Tryd.ntmps30
    go_wp2
    go_ret
    exact ⟨by first | rfl | simp, rfl⟩
  · have E : alphaB x = true := by simp [alphaB]; omega
    rw [E]; clear E
    have t0 : ¬ 97 ≤ x := by omega
    have t1 : 65 ≤ x := by omega
    have t2 : x ≤ 90 := by omega
    clear h
    go_enter Tryd.func30, Tryd.ntmps30
    go_wp2
    go_ret
    exact ⟨by first | rfl | simp, rfl⟩
  · have E : alphaB x = true := by simp [alphaB]; omega
    rw [E]; clear E
    have t0 : ¬ 97 ≤ x := by omega
    have t1 : 65 ≤ x := by omega
    have t2 : ¬ x ≤ 90 := by omega
    have t3 : (x == 95) = true := by simp; omega
    clear h
    go_enter Tryd.func30, Tryd.ntmps30
    go_wp2
    go_ret
    exact ⟨by first | rfl | simp, rfl⟩
  · have E : alphaB x = false := by simp [alphaB]; omega
    rw [E]; clear E
    have t0 : ¬ 97 ≤ x := by omega
    have t1 : 65 ≤ x := by omega
    have t2 : ¬ x ≤ 90 := by omega
    have t3 : (x == 95) = false := by simp; omega
    clear h
    go_enter Tryd.func30, Tryd.ntmps30
    go_wp2
    go_ret
    exact ⟨by first | rfl | simp, rfl⟩
  · have E : alphaB x = false := by simp [alphaB]; omega
    rw [E]; clear E
    have t0 : ¬ 97 ≤ x := by omega
    have t1 : ¬ 65 ≤ x := by omega
    have t2 : (x == 95) = false := by simp; omega
    clear h
    go_enter Tryd.func30, Tryd.ntmps30
    go_wp2
    go_ret
    exact ⟨by first | rfl | simp, rfl⟩
theorem dig_p (x : Int) (w : World) : Calls Tryd.prog 28 #[.int .u8 x] w fun e w' => e = .returned (.bool (digB x)) ∧ w = w' := by
  have hall : (48 ≤ x ∧ x ≤ 57) ∨ (57 < x) ∨ (x < 48) := by omega
  rcases hall with h | h | h
  · have E : digB x = true := by simp [digB]; omega
    rw [E]; clear E
    have t0 : 48 ≤ x := by omega
    have t1 : x ≤ 57 := by omega
    clear h
    go_enter Tryd.func28, Tryd.ntmps28
    go_wp2
    go_ret
    exact ⟨by first | rfl | simp, rfl⟩
  · have E : digB x = false := by simp [digB]; omega
    rw [E]; clear E
    have t0 : 48 ≤ x := by omega
    have t1 : ¬ x ≤ 57 := by omega
    clear h
    go_enter Tryd.func28, Tryd.ntmps28
    go_wp2
    go_ret
    exact ⟨by first | rfl | simp, rfl⟩
  · have E : digB x = false := by simp [digB]; omega
    rw [E]; clear E
    have t0 : ¬ 48 ≤ x := by omega
    clear h
    go_enter Tryd.func28, Tryd.ntmps28
    go_wp2
    go_ret
    exact ⟨by first | rfl | simp, rfl⟩
theorem dig_r (x : Int) (w : World) : Calls Tryd.prog 31 #[.int .u8 x] w fun e w' => e = .returned (.bool (digB x)) ∧ w = w' := by
  have hall : (48 ≤ x ∧ x ≤ 57) ∨ (57 < x) ∨ (x < 48) := by omega
  rcases hall with h | h | h
  · have E : digB x = true := by simp [digB]; omega
    rw [E]; clear E
    have t0 : 48 ≤ x := by omega
    have t1 : x ≤ 57 := by omega
    clear h
    go_enter Tryd.func31, Tryd.ntmps31
    go_wp2
    go_ret
    exact ⟨by first | rfl | simp, rfl⟩
  · have E : digB x = false := by simp [digB]; omega
    rw [E]; clear E
    have t0 : 48 ≤ x := by omega
    have t1 : ¬ x ≤ 57 := by omega
    clear h
    go_enter Tryd.func31, Tryd.ntmps31
    go_wp2
    go_ret
    exact ⟨by first | rfl | simp, rfl⟩
  · have E : digB x = false := by simp [digB]; omega
    rw [E]; clear E
    have t0 : ¬ 48 ≤ x := by omega
    clear h
    go_enter Tryd.func31, Tryd.ntmps31
    go_wp2
    go_ret
    exact ⟨by first | rfl | simp, rfl⟩
theorem blk_p (x : Int) (w : World) : Calls Tryd.prog 51 #[.int .u8 x] w fun e w' => e = .returned (.bool (blkB x)) ∧ w = w' := by
  have hall : (x = 32) ∨ (x = 9) ∨ (x = 10) ∨ (x ≠ 32 ∧ x ≠ 9 ∧ x ≠ 10) := by omega
  rcases hall with h | h | h | h
  · have E : blkB x = true := by simp [blkB]; try omega
    rw [E]; clear E
    have t0 : (x == 32) = true := by simp; omega
    clear h
    go_enter Tryd.func51, Tryd.ntmps51
    go_wp2
    go_ret
    exact ⟨by first | rfl | simp, rfl⟩
  · have E : blkB x = true := by simp [blkB]; try omega
    rw [E]; clear E
    have t0 : (x == 32) = false := by simp; omega
    have t1 : (x == 9) = true := by simp; omega
    clear h
    go_enter Tryd.func51, Tryd.ntmps51
    go_wp2
    go_ret
    exact ⟨by first | rfl | simp, rfl⟩
  · have E : blkB x = true := by simp [blkB]; try omega
    rw [E]; clear E
    have t0 : (x == 32) = false := by simp; omega
    have t1 : (x == 9) = false := by simp; omega
    have t2 : (x == 10) = true := by simp; omega
    clear h
    go_enter Tryd.func51, Tryd.ntmps51
    go_wp2
    go_ret
    exact ⟨by first | rfl | simp, rfl⟩
  · have E : blkB x = false := by simp [blkB]; try omega
    rw [E]; clear E
    have t0 : (x == 32) = false := by simp; omega
    have t1 : (x == 9) = false := by simp; omega
    have t2 : (x == 10) = false := by simp; omega
    clear h
    go_enter Tryd.func51, Tryd.ntmps51
    go_wp2
    go_ret
    exact ⟨by first | rfl | simp, rfl⟩
theorem part_p (x : Int) (w : World) : Calls Tryd.prog 92 #[.int .u8 x] w fun e w' => e = .returned (.int .u8 (partI x)) ∧ w = w' := by
  have hall : (x = 40) ∨ (x = 91) ∨ (x = 123) ∨ (x = 60) ∨ (x ≠ 40 ∧ x ≠ 91 ∧ x ≠ 123 ∧ x ≠ 60) := by omega
  rcases hall with h | h | h | h | h
  · have E : partI x = 41 := by subst h; rfl
    rw [E]; clear E
    have t0 : (x == 40) = true := by simp; omega
    clear h
    go_enter Tryd.func92, Tryd.ntmps92
    go_wp2
    go_ret
    exact ⟨by first | rfl | simp, rfl⟩
  · have E : partI x = 93 := by subst h; rfl
    rw [E]; clear E
    have t0 : (x == 40) = false := by simp; omega
    have t1 : (x == 91) = true := by simp; omega
    clear h
    go_enter Tryd.func92, Tryd.ntmps92
    go_wp2
    go_ret
    exact ⟨by first | rfl | simp, rfl⟩
  · have E : partI x = 125 := by subst h; rfl
    rw [E]; clear E
    have t0 : (x == 40) = false := by simp; omega
    have t1 : (x == 91) = false := by simp; omega
    have t2 : (x == 123) = true := by simp; omega
    clear h
    go_enter Tryd.func92, Tryd.ntmps92
    go_wp2
    go_ret
    exact ⟨by first | rfl | simp, rfl⟩
  · have E : partI x = 62 := by subst h; rfl
    rw [E]; clear E
    have t0 : (x == 40) = false := by simp; omega
    have t1 : (x == 91) = false := by simp; omega
    have t2 : (x == 123) = false := by simp; omega
    have t3 : (x == 60) = true := by simp; omega
    clear h
    go_enter Tryd.func92, Tryd.ntmps92
    go_wp2
    go_ret
    exact ⟨by first | rfl | simp, rfl⟩
  · have E : partI x = x := by unfold partI; simp [h]
    rw [E]; clear E
    have t0 : (x == 40) = false := by simp; omega
    have t1 : (x == 91) = false := by simp; omega
    have t2 : (x == 123) = false := by simp; omega
    have t3 : (x == 60) = false := by simp; omega
    clear h
    go_enter Tryd.func92, Tryd.ntmps92
    go_wp2
    go_ret
    exact ⟨by first | rfl | simp, rfl⟩
end Go.Proofs.YtaoehbnjipegoaaDoor
