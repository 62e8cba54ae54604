/- The reference's errors of two texts, and of a result. -/
import Derived.Test.YtlacfknoanjlpaaDoorCRef2
namespace Go.Proofs.YtlacfknoanjlpaaDoor
open Go.RowKit Go.Shelf
def chk2 (l m : List UInt8) : Int := if chkE l = 0 then chkE m else chkE l
set_option maxRecDepth 100000 in
theorem both_r (s t : ByteArray) (hs : s.size ≤ 140737488351232) (ht : t.size ≤ 140737488351232) (w : World) : Calls Tryd.prog 77 #[.string s, .string t] w fun e w' => e = .returned (.int .i64 (chk2 s.data.toList t.data.toList)) ∧ w = w' := by
  have HS := Lib.hid (fun w => checked_r s hs w)
  have HT := Lib.hid (fun w => checked_r t ht w)
  by_cases h : chkE s.data.toList = 0
  · have HE : Hid (chk2 s.data.toList t.data.toList = chkE t.data.toList) := Lib.hid (by unfold chk2; rw [if_pos h])
    rw [h] at HS
    clear h
    go_enter Tryd.func77, Tryd.ntmps77
    go_wp2_with fail
    refine (HS.out _).mono ?_
    rintro e w3 ⟨rfl, rfl⟩
    go_wp2_with fail
    refine (HT.out _).mono ?_
    rintro e w3 ⟨rfl, rfl⟩
    go_wp2
    go_ret
    exact ⟨by rw [HE.out]; rfl, rfl⟩
  · have HE : Hid (chk2 s.data.toList t.data.toList = chkE s.data.toList) := Lib.hid (by unfold chk2; rw [if_neg h])
    have hb : (chkE s.data.toList == 0) = false := beq_eq_false_iff_ne.2 h
    clear h
    generalize chkE s.data.toList = E at *
    go_enter Tryd.func77, Tryd.ntmps77
    go_wp2_with (go_at_call 44; refine (HS.out _).mono ?_; rintro e w3 ⟨rfl, rfl⟩)
    go_ret
    exact ⟨by rw [HE.out]; rfl, rfl⟩
/-- a text that must not be too long -/
def sizE (l : List UInt8) : List UInt8 × Int := if 4096 < l.length then ([], 3) else (l, 0)
set_option maxRecDepth 100000 in
theorem sized_r (s : ByteArray) (w : World) : Calls Tryd.prog 55 #[.string s] w fun e w' => e = .returned (.tuple #[.string ⟨(sizE s.data.toList).1.toArray⟩, .int .i64 (sizE s.data.toList).2]) ∧ w = w' := by
  by_cases h1 : 4096 < s.size
  · have HE : Hid (sizE s.data.toList = ([], 3)) := Lib.hid (if_pos (by rw [sizeL]; exact h1))
    go_enter Tryd.func55, Tryd.ntmps55
    go_wp2
    go_ret2
    exact ⟨by rw [HE.out]; rfl, rfl⟩
  · have HE : Hid (sizE s.data.toList = (s.data.toList, 0)) := Lib.hid (if_neg (by rw [sizeL]; exact h1))
    go_enter Tryd.func55, Tryd.ntmps55
    go_wp2
    go_ret2
    exact ⟨by rw [HE.out]; rfl, rfl⟩
end Go.Proofs.YtlacfknoanjlpaaDoor
