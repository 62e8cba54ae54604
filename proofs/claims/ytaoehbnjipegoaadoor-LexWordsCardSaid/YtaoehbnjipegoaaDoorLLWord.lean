/- The law on words. -/
import Derived.Test.YtaoehbnjipegoaaDoorLIsW
namespace Go.Proofs.YtaoehbnjipegoaaDoor
open Go.RowKit Go.Shelf
set_option maxRecDepth 100000 in
theorem law_words (s : ByteArray) (hs : s.size ≤ 140737488351232) (w : World) : Calls Tryd.prog 3 #[.string s] w fun e w' => e = .returned (.bool true) ∧ Gr w w' := by
  have HO := Lib.hid (fun w => over_l s w)
  have HK := Lib.hid (fun w => known_l w)
  have HP := Lib.hid (fun w => isWord_p s hs w)
  have HR := Lib.hid (fun w => isWord_r s hs w)
  clear hs
  by_cases ho : 16000 < (s.size : Int)
  · have ho' : decide (16000 < (s.size : Int)) = true := by simpa using ho
    rw [ho'] at HO
    clear ho ho'
    go_enter Tryd.func3, Tryd.ntmps3
    go_wp2_with fail
    refine (HO.out _).mono ?_
    rintro e w1 ⟨rfl, rfl⟩
    go_wp2_with fail
    refine (HK.out _).mono ?_
    rintro e w2 ⟨rfl, g⟩
    go_wp2
    go_ret
    exact ⟨rfl, g⟩
  · have ho' : decide (16000 < (s.size : Int)) = false := by simpa using ho
    rw [ho'] at HO
    have tb : (isW s.data.toList == isW s.data.toList) = true := by simp
    generalize isW s.data.toList = b at *
    clear ho ho'
    go_enter Tryd.func3, Tryd.ntmps3
    go_wp2_with fail
    refine (HO.out _).mono ?_
    rintro e w1 ⟨rfl, rfl⟩
    go_wp2_with fail
    refine (HP.out _).mono ?_
    rintro e w1 ⟨rfl, rfl⟩
    go_wp2_with fail
    refine (HR.out _).mono ?_
    rintro e w1 ⟨rfl, rfl⟩
    go_wp2_with fail
    refine (HK.out _).mono ?_
    rintro e w2 ⟨rfl, g⟩
    go_wp2
    go_ret
    exact ⟨rfl, g⟩
end Go.Proofs.YtaoehbnjipegoaaDoor
