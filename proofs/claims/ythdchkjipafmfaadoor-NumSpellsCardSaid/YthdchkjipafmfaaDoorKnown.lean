/- known: the program has the numbers that the document gives. -/
import Derived.Test.YthdchkjipafmfaaDoorDo
import Derived.Test.YthdchkjipafmfaaDoorText
namespace Go.Proofs.YthdchkjipafmfaaDoor
open Go.RowKit

theorem kNumber (w : World) : Calls Tryd.prog 18 #[.agg #[.int .i64 2, .int .i64 0, .string ⟨#[32, 32, 45, 49, 50, 97, 98, 99]⟩, .bool false]] w fun e w' => e = .returned (.tuple #[.int .i64 (-12), .int .i64 0]) ∧ Gr w w' :=
  (numberOf_ok 2 0 ⟨#[32, 32, 45, 49, 50, 97, 98, 99]⟩ false w (by decide) (by decide)).mono fun _ _ h => ⟨h.1.trans (by rw [show numZ 2 0 ([32, 32, 45, 49, 50, 97, 98, 99] : List UInt8) = -12 from by decide]), h.2⟩
theorem kDiv (w : World) : Calls Tryd.prog 28 #[.int .i64 3, .int .i64 (-7), .int .i64 2] w fun e w' => e = .returned (.tuple #[.int .i64 (-4), .int .i64 0, .int .i64 0]) ∧ Gr w w' :=
  do_div (-7) 2 w (by decide) (by decide) (by decide) (by decide)
theorem kLooks (w : World) : Calls Tryd.prog 25 #[.string ⟨#[32, 32, 45, 49, 50, 97, 98, 99]⟩] w fun e w' => e = .returned (.bool false) ∧ Gr w w' :=
  (looks_any ⟨#[32, 32, 45, 49, 50, 97, 98, 99]⟩ w (by decide)).mono fun _ _ h => ⟨h.1.trans (by rw [show looks ([32, 32, 45, 49, 50, 97, 98, 99] : List UInt8) = false from by decide]), h.2⟩
theorem known_any (w : World) : Calls Tryd.prog 16 #[] w fun e w' => e = .returned (.bool true) ∧ Gr w w' := by
  go_enter Tryd.func16, Tryd.ntmps16
  go_wp2_with fail
  refine (kNumber _).mono ?_
  rintro e w1 ⟨rfl, h1⟩
  go_wp2_with fail
  refine (kDiv _).mono ?_
  rintro e w2 ⟨rfl, h2⟩
  go_wp2_with fail
  refine (kLooks _).mono ?_
  rintro e w3 ⟨rfl, h3⟩
  go_wp2
  go_ret
  exact ⟨rfl, (h1.trans h2).trans h3⟩
end Go.Proofs.YthdchkjipafmfaaDoor
