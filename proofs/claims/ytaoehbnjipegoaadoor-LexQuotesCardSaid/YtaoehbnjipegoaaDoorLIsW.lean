/- Which texts are words, on both sides. -/
import Derived.Test.YtaoehbnjipegoaaDoorLWordR
import Derived.Test.YtaoehbnjipegoaaDoorLKnow
namespace Go.Proofs.YtaoehbnjipegoaaDoor
open Go.RowKit Go.Shelf
def isW (l : List UInt8) : Bool := !l.isEmpty && (decide (l.length ≤ 12) && wordN l == l.length)
theorem over_l (s : ByteArray) (w : World) : Calls Tryd.prog 7 #[.string s] w fun e w' => e = .returned (.bool (decide (16000 < (s.size : Int)))) ∧ w = w' := by
  go_enter Tryd.func7, Tryd.ntmps7
  go_wp2
  go_ret
  exact ⟨rfl, rfl⟩
theorem isWord_p (s : ByteArray) (hs : s.size ≤ 140737488351232) (w : World) : Calls Tryd.prog 9 #[.string s] w fun e w' => e = .returned (.bool (isW s.data.toList)) ∧ w = w' := by
  have HW := Lib.hid (fun w => word_p s hs w)
  by_cases h0 : s.data.toList = []
  · have E : isW s.data.toList = false := by rw [h0]; rfl
    have t0 : (s.toList == []) = true := by rw [ByteArray.toList_eq, h0]; rfl
    have t1 : (s.toList != []) = false := by rw [ByteArray.toList_eq, h0]; rfl
    rw [E]
    clear E h0 HW
    go_enter Tryd.func9, Tryd.ntmps9
    go_wp2
    go_ret
    exact ⟨rfl, rfl⟩
  · have t0 : (s.toList == []) = false := by rw [ByteArray.toList_eq]; simpa using h0
    have t1 : (s.toList != []) = true := by rw [ByteArray.toList_eq]; simpa using h0
    by_cases h12 : s.size ≤ 12
    · have g12 : (s.size : Int) ≤ 12 := by omega
      by_cases hw : wordN s.data.toList = s.data.toList.length
      · have E : isW s.data.toList = true := by
          have : s.data.toList.isEmpty = false := by simpa using h0
          rw [isW, this, hw, sizeL]; simp [h12]
        have t2 : ((wordN s.data.toList : Int) == (s.size : Int)) = true := by rw [hw, sizeL]; simp
        rw [E]
        generalize wordN s.data.toList = n at *
        clear E h0 hw h12
        go_enter Tryd.func9, Tryd.ntmps9
        go_wp2_with fail
        refine (HW.out _).mono ?_
        rintro e w1 ⟨rfl, rfl⟩
        go_wp2
        go_ret
        exact ⟨rfl, rfl⟩
      · have E : isW s.data.toList = false := by
          have : (wordN s.data.toList == s.data.toList.length) = false := by simpa using hw
          rw [isW, this]; simp
        have t2 : ((wordN s.data.toList : Int) == (s.size : Int)) = false := by rw [sizeL] at hw; simp; omega
        rw [E]
        generalize wordN s.data.toList = n at *
        clear E h0 hw h12
        go_enter Tryd.func9, Tryd.ntmps9
        go_wp2_with fail
        refine (HW.out _).mono ?_
        rintro e w1 ⟨rfl, rfl⟩
        go_wp2
        go_ret
        exact ⟨rfl, rfl⟩
    · have g12 : decide ((s.size : Int) ≤ 12) = false := by simp; omega
      have g13 : decide (s.size ≤ 12) = false := by simpa using h12
      have E : isW s.data.toList = false := by
        rw [isW, sizeL, g13]; simp
      rw [E]
      clear E h0 h12 HW
      go_enter Tryd.func9, Tryd.ntmps9
      go_wp2
      go_ret
      exact ⟨rfl, rfl⟩
theorem isWord_r (s : ByteArray) (hs : s.size ≤ 140737488351232) (w : World) : Calls Tryd.prog 10 #[.string s] w fun e w' => e = .returned (.bool (isW s.data.toList)) ∧ w = w' := by
  have HW := Lib.hid (fun w => word_r s hs w)
  by_cases h0 : s.data.toList = []
  · have E : isW s.data.toList = false := by rw [h0]; rfl
    have t0 : (s.toList == []) = true := by rw [ByteArray.toList_eq, h0]; rfl
    have t1 : (s.toList != []) = false := by rw [ByteArray.toList_eq, h0]; rfl
    rw [E]
    clear E h0 HW
    go_enter Tryd.func10, Tryd.ntmps10
    go_wp2
    go_ret
    exact ⟨rfl, rfl⟩
  · have t0 : (s.toList == []) = false := by rw [ByteArray.toList_eq]; simpa using h0
    have t1 : (s.toList != []) = true := by rw [ByteArray.toList_eq]; simpa using h0
    by_cases h12 : s.size ≤ 12
    · have g12 : (s.size : Int) ≤ 12 := by omega
      by_cases hw : wordN s.data.toList = s.data.toList.length
      · have E : isW s.data.toList = true := by
          have : s.data.toList.isEmpty = false := by simpa using h0
          rw [isW, this, hw, sizeL]; simp [h12]
        have t2 : ((wordN s.data.toList : Int) == (s.size : Int)) = true := by rw [hw, sizeL]; simp
        rw [E]
        generalize wordN s.data.toList = n at *
        clear E h0 hw h12
        go_enter Tryd.func10, Tryd.ntmps10
        go_wp2_with fail
        refine (HW.out _).mono ?_
        rintro e w1 ⟨rfl, rfl⟩
        go_wp2
        go_ret
        exact ⟨rfl, rfl⟩
      · have E : isW s.data.toList = false := by
          have : (wordN s.data.toList == s.data.toList.length) = false := by simpa using hw
          rw [isW, this]; simp
        have t2 : ((wordN s.data.toList : Int) == (s.size : Int)) = false := by rw [sizeL] at hw; simp; omega
        rw [E]
        generalize wordN s.data.toList = n at *
        clear E h0 hw h12
        go_enter Tryd.func10, Tryd.ntmps10
        go_wp2_with fail
        refine (HW.out _).mono ?_
        rintro e w1 ⟨rfl, rfl⟩
        go_wp2
        go_ret
        exact ⟨rfl, rfl⟩
    · have g12 : decide ((s.size : Int) ≤ 12) = false := by simp; omega
      have g13 : decide (s.size ≤ 12) = false := by simpa using h12
      have E : isW s.data.toList = false := by
        rw [isW, sizeL, g13]; simp
      rw [E]
      by_cases hw : wordN s.data.toList = s.data.toList.length
      · have t2 : ((wordN s.data.toList : Int) == (s.size : Int)) = true := by rw [hw, sizeL]; simp
        generalize wordN s.data.toList = n at *
        clear E h0 h12 hw
        go_enter Tryd.func10, Tryd.ntmps10
        go_wp2_with fail
        refine (HW.out _).mono ?_
        rintro e w1 ⟨rfl, rfl⟩
        go_wp2
        go_ret
        exact ⟨rfl, rfl⟩
      · have t2 : ((wordN s.data.toList : Int) == (s.size : Int)) = false := by rw [sizeL] at hw; simp; omega
        generalize wordN s.data.toList = n at *
        clear E h0 h12 hw
        go_enter Tryd.func10, Tryd.ntmps10
        go_wp2_with fail
        refine (HW.out _).mono ?_
        rintro e w1 ⟨rfl, rfl⟩
        go_wp2
        go_ret
        exact ⟨rfl, rfl⟩
end Go.Proofs.YtaoehbnjipegoaaDoor
