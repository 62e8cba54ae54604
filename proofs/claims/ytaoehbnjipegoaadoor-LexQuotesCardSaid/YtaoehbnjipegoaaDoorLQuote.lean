/- Quote, on both sides. -/
import Derived.Test.YtaoehbnjipegoaaDoorLEsc
namespace Go.Proofs.YtaoehbnjipegoaaDoor
open Go.RowKit Go.Shelf
/-- a text in quotes -/
def qtB (l : List UInt8) : ByteArray := ⟨(39 :: (escL l ++ [39])).toArray⟩
/-- what Quote answers -/
def quoteV (l : List UInt8) : Value := if 4096 < l.length then .tuple #[.string ⟨#[]⟩, .int .i64 3] else if forL l < l.length then .tuple #[.string ⟨#[]⟩, .int .i64 1] else .tuple #[.string (qtB l), .int .i64 0]
set_option maxRecDepth 100000 in
theorem quoted_p (s : ByteArray) (hs : s.size ≤ 1000000) (w : World) :
    Calls Tryd.prog 24 #[.string s] w fun e w' => e = .returned (.string (qtB s.data.toList)) ∧ Gr w w' := by
  have HE := Lib.hid (fun w => escaped_p s hs w)
  have hl := escL_len s.data.toList
  rw [sizeL] at hl
  have hq : Hid ((⟨#[39]⟩ : ByteArray) ++ ⟨(escL s.data.toList).toArray⟩ ++ ⟨#[39]⟩ = qtB s.data.toList) := Lib.hid (baE (by simp [qtB, ByteArray.data_append]))
  have hz : (⟨(escL s.data.toList).toArray⟩ : ByteArray).size ≤ 2000000 := by
    have : (⟨(escL s.data.toList).toArray⟩ : ByteArray).size = (escL s.data.toList).length := by simp [ByteArray.size]
    omega
  generalize (⟨(escL s.data.toList).toArray⟩ : ByteArray) = q at *
  have hzi : (q.size : Int) ≤ 2000000 := by omega
  clear hl
  go_enter Tryd.func24, Tryd.ntmps24
  go_wp2_with fail
  refine (HE.out _).mono ?_
  rintro e w2 ⟨rfl, g⟩
  go_wp2
  go_ret
  exact ⟨by rw [← hq.out]; rfl, g⟩
set_option maxRecDepth 100000 in
theorem Quote_p (s : ByteArray) (hs : s.size ≤ 140737488351232) (w : World) :
    Calls Tryd.prog 14 #[.string s] w fun e w' => e = .returned (quoteV s.data.toList) ∧ Gr w w' := by
  have HF := Lib.hid (fun w => foreign_p s hs w)
  by_cases h1 : 4096 < s.size
  · have E : quoteV s.data.toList = .tuple #[.string ⟨#[]⟩, .int .i64 3] := by unfold quoteV; rw [sizeL, if_pos h1]
    have t1 : (4096 : Int) < (s.size : Int) := by omega
    rw [E]; clear E h1 HF
    go_enter Tryd.func14, Tryd.ntmps14
    go_wp2
    go_ret2
    exact ⟨rfl, Gr.refl w⟩
  · have t1 : decide ((4096 : Int) < (s.size : Int)) = false := by simp; omega
    by_cases h2 : forL s.data.toList < s.data.toList.length
    · have E : quoteV s.data.toList = .tuple #[.string ⟨#[]⟩, .int .i64 1] := by unfold quoteV; rw [if_pos h2, if_neg (by rw [sizeL]; exact h1)]
      have t2 : (forL s.data.toList : Int) < (s.size : Int) := by rw [sizeL] at h2; omega
      rw [E]; clear E h1 h2
      generalize forL s.data.toList = n at *
      go_enter Tryd.func14, Tryd.ntmps14
      go_wp2_with fail
      refine (HF.out _).mono ?_
      rintro e w2 ⟨rfl, g⟩
      go_wp2
      go_ret2
      exact ⟨rfl, g⟩
    · have E : quoteV s.data.toList = .tuple #[.string (qtB s.data.toList), .int .i64 0] := by unfold quoteV; rw [if_neg h2, if_neg (by rw [sizeL]; exact h1)]
      have t2 : decide ((forL s.data.toList : Int) < (s.size : Int)) = false := by rw [sizeL] at h2; simp; omega
      have t3 : decide (forL s.data.toList < s.size) = false := by rw [sizeL] at h2; simpa using h2
      have HQ := Lib.hid (fun w => quoted_p s (by omega) w)
      rw [E]; clear E h1 h2
      generalize forL s.data.toList = n at *
      generalize qtB s.data.toList = q at *
      go_enter Tryd.func14, Tryd.ntmps14
      go_wp2_with fail
      refine (HF.out _).mono ?_
      rintro e w2 ⟨rfl, g⟩
      go_wp2_with fail
      refine (HQ.out _).mono ?_
      rintro e w3 ⟨rfl, g3⟩
      go_wp2
      go_ret2
      exact ⟨rfl, g.trans g3⟩
end Go.Proofs.YtaoehbnjipegoaaDoor
