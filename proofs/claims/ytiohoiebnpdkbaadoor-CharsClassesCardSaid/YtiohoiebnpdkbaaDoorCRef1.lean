/- The reference's reading of characters: IsChar, first, Valid, Checked, both, sized. -/
import Derived.Test.YtiohoiebnpdkbaaDoorCVal
namespace Go.Proofs.YtiohoiebnpdkbaaDoor
open Go.RowKit Go.Shelf
theorem isChar_r (c : Int) (w : World) : Calls Tryd.prog 24 #[.int .i64 c] w fun e w' => e = .returned (.bool (isCh c)) ∧ w = w' := by
  go_enter Tryd.func24, Tryd.ntmps24
  go_wp2
  all_goals (go_ret; exact ⟨by first | (simp_all [isCh]; done) | (simp_all [isCh]; omega), rfl⟩)
/-- one more byte -/
theorem cont_step {r : List UInt8} {j : Nat} {c : Int} {x : UInt8} {t : List UInt8} (hx : r.drop j = x :: t) : (goesB (x.toNat : Int) = true → cont (r.drop j) c = cont (r.drop (j + 1)) (c * 64 + (x.toNat : Int) - 128)) ∧ (goesB (x.toNat : Int) = false → cont (r.drop j) c = none) := by
  have ht : r.drop (j + 1) = t := by rw [← List.drop_drop, hx]; rfl
  rw [hx, ht]
  exact ⟨cont_on, cont_no⟩
def bdI (i : Nat) (c : Int) : Prop := 0 ≤ c ∧ ((i = 1 ∧ c < 32) ∨ (i = 2 ∧ c < 2048) ∨ (i = 3 ∧ c < 131072) ∨ (i = 4 ∧ c < 8388608))
end Go.Proofs.YtiohoiebnpdkbaaDoor
