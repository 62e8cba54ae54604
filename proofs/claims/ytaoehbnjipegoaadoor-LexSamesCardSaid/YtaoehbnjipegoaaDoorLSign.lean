/- The signs. -/
import Derived.Test.YtaoehbnjipegoaaDoorLNum
namespace Go.Proofs.YtaoehbnjipegoaaDoor
open Go.RowKit Go.Shelf
def signsL : List (List UInt8) := [[40], [41], [91], [93], [123], [125], [44], [59], [58], [63], [92], [61], [61, 61], [33, 61], [60], [62], [60, 61], [62, 61], [60, 61, 62], [43], [45], [42], [47], [37], [46], [46, 46], [43, 43], [45, 45], [43, 61], [45, 61], [42, 61], [47, 61], [37, 61], [46, 61], [124, 124, 61], [38, 38, 61], [47, 47, 61], [124, 124], [38, 38], [47, 47], [33], [61, 126], [33, 126], [61, 62], [45, 62], [38], [124], [94]]
def isSignB (l : List UInt8) : Bool := signsL.contains l
set_option maxRecDepth 100000 in
set_option maxHeartbeats 2000000 in
theorem isSign_p (s : ByteArray) (w : World) : Calls Tryd.prog 74 #[.string s] w fun e w' => e = .returned (.bool (isSignB s.data.toList)) ∧ w = w' := by
  obtain ⟨R, hR⟩ : ∃ R, R = isSignB s.data.toList := ⟨_, rfl⟩
  have HR : Hid (R = (s.toList == [40] || s.toList == [41] || s.toList == [91] || s.toList == [93] || s.toList == [123] || s.toList == [125] || s.toList == [44] || s.toList == [59] || s.toList == [58] || s.toList == [63] || s.toList == [92] || s.toList == [61] || s.toList == [61, 61] || s.toList == [33, 61] || s.toList == [60] || s.toList == [62] || s.toList == [60, 61] || s.toList == [62, 61] || s.toList == [60, 61, 62] || s.toList == [43] || s.toList == [45] || s.toList == [42] || s.toList == [47] || s.toList == [37] || s.toList == [46] || s.toList == [46, 46] || s.toList == [43, 43] || s.toList == [45, 45] || s.toList == [43, 61] || s.toList == [45, 61] || s.toList == [42, 61] || s.toList == [47, 61] || s.toList == [37, 61] || s.toList == [46, 61] || s.toList == [124, 124, 61] || s.toList == [38, 38, 61] || s.toList == [47, 47, 61] || s.toList == [124, 124] || s.toList == [38, 38] || s.toList == [47, 47] || s.toList == [33] || s.toList == [61, 126] || s.toList == [33, 126] || s.toList == [61, 62] || s.toList == [45, 62] || s.toList == [38] || s.toList == [124] || s.toList == [94])) := Lib.hid (by
    rw [hR, ByteArray.toList_eq]
    simp only [isSignB, signsL, List.contains_cons, List.contains_nil, Bool.or_false, Bool.or_assoc])
  rw [← hR]
  clear hR
  go_enter Tryd.func74, Tryd.ntmps74
  go_wp2
  all_goals
    go_ret
    refine ⟨?_, rfl⟩
    rw [HR.out]
    first
      | (simp [*]; done)
      | simp_all
end Go.Proofs.YtaoehbnjipegoaaDoor
