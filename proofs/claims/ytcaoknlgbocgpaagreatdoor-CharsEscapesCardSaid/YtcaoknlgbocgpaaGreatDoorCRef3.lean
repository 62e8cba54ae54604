/- The reference's errors of two texts, and of a result. -/
import Derived.Test.YtcaoknlgbocgpaaGreatDoorCRef2
namespace Go.Proofs.YtcaoknlgbocgpaaGreatDoor
open Go.RowKit Go.Shelf
def chk2 (l m : List UInt8) : Int := if chkE l = 0 then chkE m else chkE l
/-- a text that must not be too long -/
def sizE (l : List UInt8) : List UInt8 × Int := if 4096 < l.length then ([], 3) else (l, 0)
set_option maxRecDepth 100000 in
theorem sized_r (s : ByteArray) (w : World) : Calls Tryz.prog 26 #[.string s] w fun e w' => e = .returned (.tuple #[.string ⟨(sizE s.data.toList).1.toArray⟩, .int .i64 (sizE s.data.toList).2]) ∧ w = w' := by
  by_cases h1 : 4096 < s.size
  · have HE : Hid (sizE s.data.toList = ([], 3)) := Lib.hid (if_pos (by rw [sizeL]; exact h1))
    go_enter Tryz.func26, Tryz.ntmps26
    go_wp2
    go_ret2
    exact ⟨by rw [HE.out]; rfl, rfl⟩
  · have HE : Hid (sizE s.data.toList = (s.data.toList, 0)) := Lib.hid (if_neg (by rw [sizeL]; exact h1))
    go_enter Tryz.func26, Tryz.ntmps26
    go_wp2
    go_ret2
    exact ⟨by rw [HE.out]; rfl, rfl⟩
end Go.Proofs.YtcaoknlgbocgpaaGreatDoor
