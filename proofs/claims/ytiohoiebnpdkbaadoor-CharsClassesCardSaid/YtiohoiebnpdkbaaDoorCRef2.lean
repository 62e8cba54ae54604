/- The reference's reading of characters: first, Valid, Checked, both, sized. -/
import Derived.Test.YtiohoiebnpdkbaaDoorCRef1
namespace Go.Proofs.YtiohoiebnpdkbaaDoor
open Go.RowKit Go.Shelf
/-- what is wrong with a text -/
def chkE (l : List UInt8) : Int := if 4096 < l.length then 3 else if (validL l).2 = true then 0 else 2
theorem chkE_long {l : List UInt8} (h : 4096 < l.length) : chkE l = 3 := if_pos h
theorem chkE_bad {l : List UInt8} (h : ¬ 4096 < l.length) (hv : (validL l).2 = false) : chkE l = 2 := by unfold chkE; rw [if_neg h, hv]; rfl
theorem chkE_ok {l : List UInt8} (h : ¬ 4096 < l.length) (hv : (validL l).2 = true) : chkE l = 0 := by unfold chkE; rw [if_neg h, hv]; rfl
theorem chkE_zero {l : List UInt8} (h : chkE l = 0) : l.length ≤ 4096 ∧ (validL l).2 = true := by
  by_cases h1 : 4096 < l.length
  · rw [chkE_long h1] at h; cases h
  · cases hv : (validL l).2
    · rw [chkE_bad h1 hv] at h; cases h
    · exact ⟨by omega, rfl⟩
theorem chkE_bd (l : List UInt8) : 0 ≤ chkE l ∧ chkE l ≤ 3 := by
  unfold chkE
  split
  · decide
  · split <;> decide
end Go.Proofs.YtiohoiebnpdkbaaDoor
