/- What is expected behind a token. -/
import Derived.Test.YtaoehbnjipegoaaDoorLToken
namespace Go.Proofs.YtaoehbnjipegoaaDoor
open Go.RowKit Go.Shelf
def takesL : List (List UInt8) := [[114, 101, 116, 117, 114, 110], [97, 110, 100], [111, 114], [110, 111, 116], [120], [108, 116], [103, 116], [108, 101], [103, 101], [101, 113], [110, 101], [99, 109, 112], [105, 102], [117, 110, 108, 101, 115, 115], [101, 108, 115, 105, 102], [101, 108, 115, 101], [119, 104, 105, 108, 101], [117, 110, 116, 105, 108], [102, 111, 114], [100, 111], [101, 118, 97, 108], [115, 117, 98], [109, 97, 112], [103, 114, 101, 112], [115, 111, 114, 116], [109, 121], [111, 117, 114], [108, 111, 99, 97, 108]]
def takesB (l : List UInt8) : Bool := takesL.contains l
set_option maxRecDepth 100000 in
set_option maxHeartbeats 2000000 in
theorem takes_p (s : ByteArray) (w : World) : Calls Tryd.prog 48 #[.string s] w fun e w' => e = .returned (.bool (takesB s.data.toList)) ∧ w = w' := by
  obtain ⟨R, hR⟩ : ∃ R, R = takesB s.data.toList := ⟨_, rfl⟩
  have HR : Hid (R = (s.toList == [114, 101, 116, 117, 114, 110] || s.toList == [97, 110, 100] || s.toList == [111, 114] || s.toList == [110, 111, 116] || s.toList == [120] || s.toList == [108, 116] || s.toList == [103, 116] || s.toList == [108, 101] || s.toList == [103, 101] || s.toList == [101, 113] || s.toList == [110, 101] || s.toList == [99, 109, 112] || s.toList == [105, 102] || s.toList == [117, 110, 108, 101, 115, 115] || s.toList == [101, 108, 115, 105, 102] || s.toList == [101, 108, 115, 101] || s.toList == [119, 104, 105, 108, 101] || s.toList == [117, 110, 116, 105, 108] || s.toList == [102, 111, 114] || s.toList == [100, 111] || s.toList == [101, 118, 97, 108] || s.toList == [115, 117, 98] || s.toList == [109, 97, 112] || s.toList == [103, 114, 101, 112] || s.toList == [115, 111, 114, 116] || s.toList == [109, 121] || s.toList == [111, 117, 114] || s.toList == [108, 111, 99, 97, 108])) := Lib.hid (by
    rw [hR, ByteArray.toList_eq]
    simp only [takesB, takesL, List.contains_cons, List.contains_nil, Bool.or_false, Bool.or_assoc])
  rw [← hR]
  clear hR
  go_enter Tryd.func48, Tryd.ntmps48
  go_wp2
  all_goals
    go_ret
    refine ⟨?_, rfl⟩
    rw [HR.out]
    first
      | (simp [*]; done)
      | simp_all
def behindSignB (l : List UInt8) (opn : Int) (before : Bool) : Bool :=
  if l == [41] || l == [93] then false else if l == [125] then (opn != 2 && opn != 3) else if l == [43, 43] || l == [45, 45] then before else true
set_option maxRecDepth 100000 in
set_option maxHeartbeats 2000000 in
theorem behindSign_p (k p : Int) (s r m : ByteArray) (o : Int) (b : Bool) (w : World) : Calls Tryd.prog 49 #[.agg #[.int .i64 k, .int .i64 p, .string s, .string r, .string m, .int .i64 o], .bool b] w fun e w' => e = .returned (.bool (behindSignB s.data.toList o b)) ∧ Gr w w' := by
  obtain ⟨R, hR⟩ : ∃ R, R = behindSignB s.data.toList o b := ⟨_, rfl⟩
  have HR : Hid (R = if (s.toList == [41] || s.toList == [93]) = true then false else if (s.toList == [125]) = true then (o != 2 && o != 3) else if (s.toList == [43, 43] || s.toList == [45, 45]) = true then b else true) := Lib.hid (by rw [hR, ByteArray.toList_eq]; rfl)
  rw [← hR]
  clear hR
  by_cases h2 : o = 2
  · have t2 : (o == 2) = true := by simpa using h2
    clear h2
    go_enter Tryd.func49, Tryd.ntmps49
    go_wp2
    all_goals
      go_ret
      refine ⟨?_, (Gr.refl w).alloc _⟩
      rw [HR.out]
      first
        | (simp [*]; done)
        | simp_all
  · have t2 : (o == 2) = false := by simpa using h2
    clear h2
    go_enter Tryd.func49, Tryd.ntmps49
    go_wp2
    all_goals
      go_ret
      refine ⟨?_, (Gr.refl w).alloc _⟩
      rw [HR.out]
      first
        | (simp [*]; done)
        | simp_all
def behindB (k : Int) (l : List UInt8) (o : Int) (b : Bool) : Bool := if k = 0 then takesB l else if k = 3 then behindSignB l o b else !(decide (1 ≤ k) && decide (k ≤ 9))
set_option maxRecDepth 100000 in
set_option maxHeartbeats 1000000 in
theorem behind_p (k p : Int) (s r m : ByteArray) (o : Int) (b : Bool) (w : World) : Calls Tryd.prog 39 #[.agg #[.int .i64 k, .int .i64 p, .string s, .string r, .string m, .int .i64 o], .bool b] w fun e w' => e = .returned (.bool (behindB k s.data.toList o b)) ∧ Gr w w' := by
  have HT := Lib.hid (fun w => takes_p s w)
  have HS := Lib.hid (fun w => behindSign_p k p s r m o b w)
  have G := Lib.hid ((Gr.refl w).alloc (.cells #[.int .i64 k, .int .i64 p, .string s, .string r, .string m, .int .i64 o] 32))
  by_cases h0 : k = 0
  · have e0 : behindB k s.data.toList o b = takesB s.data.toList := if_pos h0
    have t0 : (k == 0) = true := by simpa using h0
    rw [e0]; clear e0 h0 HS
    go_enter Tryd.func39, Tryd.ntmps39
    go_wp2_with fail
    refine (HT.out _).mono ?_
    rintro e w2 ⟨rfl, rfl⟩
    go_wp2
    go_ret
    exact ⟨rfl, G.out⟩
  · have t0 : (k == 0) = false := by simpa using h0
    by_cases h3 : k = 3
    · have e0 : behindB k s.data.toList o b = behindSignB s.data.toList o b := by unfold behindB; rw [if_neg h0, if_pos h3]
      have t3 : (k == 3) = true := by simpa using h3
      rw [e0]; clear e0 h0 h3 HT
      go_enter Tryd.func39, Tryd.ntmps39
      go_wp2_with fail
      refine (HS.out _).mono ?_
      rintro e w2 ⟨rfl, g2⟩
      go_wp2
      go_ret
      exact ⟨rfl, Gr.trans G.out g2⟩
    · have e0 : behindB k s.data.toList o b = !(decide (1 ≤ k) && decide (k ≤ 9)) := by unfold behindB; rw [if_neg h0, if_neg h3]
      have t3 : (k == 3) = false := by simpa using h3
      by_cases hin : k = 1 ∨ k = 2 ∨ k = 4 ∨ k = 5 ∨ k = 6 ∨ k = 7 ∨ k = 8 ∨ k = 9
      · rw [e0]; clear e0 h0 h3 HT HS t0 t3
        rcases hin with rfl | rfl | rfl | rfl | rfl | rfl | rfl | rfl
        all_goals
          rw [show (!(decide ((1 : Int) ≤ _) && decide (_ ≤ (9 : Int)))) = false from by decide]
          go_enter Tryd.func39, Tryd.ntmps39
          go_wp2
          go_ret
          exact ⟨rfl, G.out⟩
      · have e1 : (!(decide (1 ≤ k) && decide (k ≤ 9))) = true := by simp; omega
        have u1 : (k == 1) = false := by simp; omega
        have u2 : (k == 2) = false := by simp; omega
        have u4 : (k == 4) = false := by simp; omega
        have u5 : (k == 5) = false := by simp; omega
        have u6 : (k == 6) = false := by simp; omega
        have u7 : (k == 7) = false := by simp; omega
        have u8 : (k == 8) = false := by simp; omega
        have u9 : (k == 9) = false := by simp; omega
        rw [e0, e1]; clear e0 e1 h0 h3 hin HT HS
        go_enter Tryd.func39, Tryd.ntmps39
        go_wp2
        go_ret
        exact ⟨rfl, G.out⟩
set_option maxRecDepth 100000 in
theorem brace_no {P : Nat} (s : ByteArray) (d : Bool) (h1 : s.data.toList ≠ [123]) (h2 : s.data.toList ≠ [125]) (w : World) : Calls Tryd.prog 55 #[.pointer (some ⟨P, 0, none⟩), .string s, .bool d] w fun e w' => e = .returned (.int .i64 0) ∧ w = w' := by
  have t1 : (s.toList == [123]) = false := by rw [ByteArray.toList_eq]; simpa using h1
  have t2 : (s.toList == [125]) = false := by rw [ByteArray.toList_eq]; simpa using h2
  clear h1 h2
  go_enter Tryd.func55, Tryd.ntmps55
  go_wp2
  go_ret
  exact ⟨rfl, rfl⟩
end Go.Proofs.YtaoehbnjipegoaaDoor
