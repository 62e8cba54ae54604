/- No byte that no source has. -/
import Derived.Test.YtaoehbnjipegoaaDoorLRun
namespace Go.Proofs.YtaoehbnjipegoaaDoor
open Go.RowKit Go.Shelf
def ownB (c : Int) : Bool := c == 9 || c == 10 || (decide (32 ≤ c) && decide (c ≤ 126))
set_option maxRecDepth 100000 in
set_option maxHeartbeats 1000000 in
theorem foreign_no (s : ByteArray) (hs : s.size ≤ 140737488351232) (h : ∀ n (h : n < s.data.toList.length), ownB (s.data.toList[n].toNat : Int) = true) (w : World) :
    Calls Tryd.prog 23 #[.string s] w fun e w' => e = .returned (.int .i64 s.size) ∧ Gr w w' := by
  obtain ⟨l, hl⟩ : ∃ l, l = s.data.toList := ⟨_, rfl⟩
  have hsz : s.size = l.length := by rw [hl, ← sizeL]
  have HB := Lib.hid (fun n (h : n < s.size) (h' : n < l.length) => (show s[n] = l[n] by subst hl; exact byteE s n h h'))
  have HO : Hid (∀ n (h : n < l.length), ownB (l[n].toNat : Int) = true) := Lib.hid (by subst hl; exact h)
  have Hsz := Lib.hid hsz
  clear h hl hsz
  go_enter Tryd.func23, Tryd.ntmps23
  go_wp2_with fail
  go_loopw [3, 4, 7] (fun _ _ iv wr => ∃ i : Nat, iv = .int .i64 (i : Int) ∧ i ≤ s.size ∧ Gr w wr) (fun _ _ iv _ => leftTo s.size iv)
  case atStart => exact ⟨0, rfl, Nat.zero_le _, Gr.refl w⟩
  case round =>
    obtain ⟨i, rfl, hi, hg⟩ := hrel
    have Hg := Lib.hid hg
    clear hg
    by_cases hc : i < s.size
    · have hci : (i : Int) < (s.size : Int) := by omega
      have hL : i < l.length := by rw [← Hsz.out]; exact hc
      have ex := HB.out i hc hL
      have ho := HO.out i hL
      generalize l[i] = x at *
      clear HB HO hL
      have hx : (x.toNat : Int) = 9 ∨ (x.toNat : Int) = 10 ∨ ((x.toNat : Int) ≠ 9 ∧ (x.toNat : Int) ≠ 10 ∧ 32 ≤ (x.toNat : Int) ∧ (x.toNat : Int) ≤ 126) := by
        simp only [ownB, Bool.or_eq_true, Bool.and_eq_true, beq_iff_eq, decide_eq_true_eq] at ho
        omega
      have hi1 : (i : Int) + 1 ≤ 9223372036854775807 := by omega
      have hi2 : -9223372036854775808 ≤ (i : Int) + 1 := by omega
      clear ho
      rcases hx with hx | hx | ⟨h1, h2, h3, h4⟩
      · have t1 : ((x.toNat : Int) != 9) = false := by simp [hx]
        clear hx
        go_wp2_with fail
        go_roundw
        case rel => exact ⟨i + 1, rfl, hc, Hg.out⟩
        case measure => simp only [leftTo]; omega
      · have t1 : ((x.toNat : Int) != 9) = true := by simp [hx]
        have t2 : ((x.toNat : Int) != 10) = false := by simp [hx]
        clear hx
        go_wp2_with fail
        go_roundw
        case rel => exact ⟨i + 1, rfl, hc, Hg.out⟩
        case measure => simp only [leftTo]; omega
      · have t1 : ((x.toNat : Int) != 9) = true := by simpa using h1
        have t2 : ((x.toNat : Int) != 10) = true := by simpa using h2
        have t3 : ¬ (x.toNat : Int) < 32 := by omega
        have t4 : ¬ 126 < (x.toNat : Int) := by omega
        clear h1 h2 h3 h4
        go_wp2_with fail
        go_roundw
        case rel => exact ⟨i + 1, rfl, hc, Hg.out⟩
        case measure => simp only [leftTo]; omega
    · have hci : decide ((i : Int) < (s.size : Int)) = false := by simp; omega
      have hci' : decide (i < s.size) = false := by simp; omega
      clear HB HO hc
      go_wp2_with fail
      go_ret
      exact ⟨rfl, Hg.out⟩
end Go.Proofs.YtaoehbnjipegoaaDoor
