/- FormatInt at base 16. -/
import Derived.Test.YtcaoknlgbocgpaaGreatDoorCFb
namespace Go.Proofs.YtcaoknlgbocgpaaGreatDoor
open Go.RowKit Go.Shelf
theorem inner16 (u : Nat) (hu : u ≤ 9007199254740992) (w : World) (hT : DTab w) :
    Calls Tryz.prog 73 #[.int .i64 (u : Int), .int .i64 16] w fun e w' => ∃ r : ByteArray, r.data.toList = hexL u ∧ e = .returned (.string r) ∧ Gr w w' := by
  have H := Lib.hid (fb16 u hu w hT)
  clear hT
  go_enter Tryz.func73, Tryz.ntmps73
  go_wp2_with fail
  refine H.out.mono ?_
  rintro e w1 ⟨r, hr, rfl, hg⟩
  have Hr := Lib.hid hr
  clear hr
  go_wp2
  go_ret
  exact ⟨r, Hr.out, rfl, hg⟩
theorem format16 (u : Nat) (hu : u ≤ 9007199254740992) (w : World) (hT : DTab w) :
    Calls Tryz.prog 55 #[.int .i64 (u : Int), .int .i64 16] w fun e w' => ∃ r : ByteArray, r.data.toList = hexL u ∧ e = .returned (.string r) ∧ Gr w w' := by
  have H := Lib.hid (inner16 u hu w hT)
  clear hT
  go_enter Tryz.func55, Tryz.ntmps55
  go_wp2_with fail
  refine H.out.mono ?_
  rintro e w1 ⟨r, hr, rfl, hg⟩
  have Hr := Lib.hid hr
  clear hr
  go_wp2
  go_ret
  exact ⟨r, Hr.out, rfl, hg⟩
end Go.Proofs.YtcaoknlgbocgpaaGreatDoor
