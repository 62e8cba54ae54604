/- The first byte that no source has. -/
import Derived.Test.YtaoehbnjipegoaaDoorLKnow
namespace Go.Proofs.YtaoehbnjipegoaaDoor
open Go.RowKit Go.Shelf
/-- the place of the first byte that no source has -/
def forL (l : List UInt8) : Nat := l.findIdx fun c => !ownB (c.toNat : Int)
theorem forL_le (l : List UInt8) : forL l ≤ l.length := List.findIdx_le_length
theorem forL_at {l : List UInt8} {i : Nat} (hi : i < l.length) (h : ∀ n (_ : n < i) (h : n < l.length), ownB (l[n].toNat : Int) = true) (hn : ownB (l[i].toNat : Int) = false) : forL l = i := by
  unfold forL
  rw [List.findIdx_eq hi]
  exact ⟨by simp [hn], fun j hj => by simp [h j hj (by omega)]⟩
theorem forL_end {l : List UInt8} (h : ∀ n (h : n < l.length), ownB (l[n].toNat : Int) = true) : forL l = l.length := by
  unfold forL
  rw [List.findIdx_eq_length]
  intro x hx
  obtain ⟨n, hn, rfl⟩ := List.getElem_of_mem hx
  simp [h n hn]
set_option maxRecDepth 100000 in
set_option maxHeartbeats 1000000 in
theorem foreign_p (s : ByteArray) (hs : s.size ≤ 140737488351232) (w : World) :
    Calls Tryd.prog 23 #[.string s] w fun e w' => e = .returned (.int .i64 (forL s.data.toList)) ∧ Gr w w' := by
  obtain ⟨l, hl⟩ : ∃ l, l = s.data.toList := ⟨_, rfl⟩
  have hsz : s.size = l.length := by rw [hl, ← sizeL]
  have HB := Lib.hid (fun n (h : n < s.size) (h' : n < l.length) => (show s[n] = l[n] by subst hl; exact byteE s n h h'))
  have Hsz := Lib.hid hsz
  rw [← hl]
  have HR : Hid (forL l = forL l) := Lib.hid rfl
  generalize hRR : forL l = R at *
  have HR2 := Lib.hid hRR
  clear hl hsz HR hRR
  go_enter Tryd.func23, Tryd.ntmps23
  go_wp2_with fail
  go_loopw [3, 4, 7] (fun _ _ iv wr => ∃ i : Nat, iv = .int .i64 (i : Int) ∧ i ≤ s.size ∧ Gr w wr ∧ Hid (∀ n (_ : n < i) (h : n < l.length), ownB (l[n].toNat : Int) = true)) (fun _ _ iv _ => leftTo s.size iv)
  case atStart => exact ⟨0, rfl, Nat.zero_le _, Gr.refl w, Lib.hid (fun n h => absurd h (Nat.not_lt_zero _))⟩
  case round =>
    obtain ⟨i, rfl, hi, hg, hA⟩ := hrel
    have Hg := Lib.hid hg
    clear hg
    by_cases hc : i < s.size
    · have hci : (i : Int) < (s.size : Int) := by omega
      have hL : i < l.length := by rw [← Hsz.out]; exact hc
      have ex := HB.out i hc hL
      have hi1 : (i : Int) + 1 ≤ 9223372036854775807 := by omega
      have hi2 : -9223372036854775808 ≤ (i : Int) + 1 := by omega
      have HN : Hid (ownB (l[i].toNat : Int) = true → ∀ n (_ : n < i + 1) (h : n < l.length), ownB (l[n].toNat : Int) = true) := Lib.hid (fun h n h1 h2 => by
        by_cases h3 : n = i
        · subst h3; exact h
        · exact hA.out n (by omega) h2)
      have HE : Hid (ownB (l[i].toNat : Int) = false → R = i) := Lib.hid (fun h => by rw [← HR2.out]; exact forL_at hL hA.out h)
      generalize l[i] = x at *
      clear HB hL
      have hx : (x.toNat : Int) = 9 ∨ (x.toNat : Int) = 10 ∨ ((x.toNat : Int) ≠ 9 ∧ (x.toNat : Int) ≠ 10 ∧ 32 ≤ (x.toNat : Int) ∧ (x.toNat : Int) ≤ 126) ∨ ((x.toNat : Int) ≠ 9 ∧ (x.toNat : Int) ≠ 10 ∧ (x.toNat : Int) < 32) ∨ ((x.toNat : Int) ≠ 9 ∧ (x.toNat : Int) ≠ 10 ∧ 32 ≤ (x.toNat : Int) ∧ 126 < (x.toNat : Int)) := by omega
      rcases hx with hx | hx | ⟨h1, h2, h3, h4⟩ | ⟨h1, h2, h3⟩ | ⟨h1, h2, h3, h4⟩
      · have HM := Lib.hid (HN.out (by simp [ownB]; omega))
        have t1 : ((x.toNat : Int) != 9) = false := by simp [hx]
        clear hx HN HE
        go_wp2_with fail
        go_roundw
        case rel => exact ⟨i + 1, rfl, hc, Hg.out, HM⟩
        case measure => simp only [leftTo]; omega
      · have HM := Lib.hid (HN.out (by simp [ownB]; omega))
        have t1 : ((x.toNat : Int) != 9) = true := by simp [hx]
        have t2 : ((x.toNat : Int) != 10) = false := by simp [hx]
        clear hx HN HE
        go_wp2_with fail
        go_roundw
        case rel => exact ⟨i + 1, rfl, hc, Hg.out, HM⟩
        case measure => simp only [leftTo]; omega
      · have HM := Lib.hid (HN.out (by simp [ownB]; omega))
        have t1 : ((x.toNat : Int) != 9) = true := by simpa using h1
        have t2 : ((x.toNat : Int) != 10) = true := by simpa using h2
        have t3 : ¬ (x.toNat : Int) < 32 := by omega
        have t4 : ¬ 126 < (x.toNat : Int) := by omega
        clear h1 h2 h3 h4 HN HE
        go_wp2_with fail
        go_roundw
        case rel => exact ⟨i + 1, rfl, hc, Hg.out, HM⟩
        case measure => simp only [leftTo]; omega
      · have E := Lib.hid (HE.out (by simp [ownB]; omega))
        have t1 : ((x.toNat : Int) != 9) = true := by simpa using h1
        have t2 : ((x.toNat : Int) != 10) = true := by simpa using h2
        clear h1 h2 HN HE
        go_wp2_with fail
        go_ret
        rw [E.out]
        exact ⟨rfl, Hg.out⟩
      · have E := Lib.hid (HE.out (by simp [ownB]; omega))
        have t1 : ((x.toNat : Int) != 9) = true := by simpa using h1
        have t2 : ((x.toNat : Int) != 10) = true := by simpa using h2
        have t3 : ¬ (x.toNat : Int) < 32 := by omega
        clear h1 h2 h3 HN HE
        go_wp2_with fail
        go_ret
        rw [E.out]
        exact ⟨rfl, Hg.out⟩
    · have E : Hid (R = s.size) := Lib.hid (by rw [← HR2.out, Hsz.out]; exact forL_end fun n h => hA.out n (by have := Hsz.out; omega) h)
      have hci : decide ((i : Int) < (s.size : Int)) = false := by simp; omega
      have hci' : decide (i < s.size) = false := by simp; omega
      clear HB hc
      go_wp2_with fail
      go_ret
      rw [E.out]
      exact ⟨rfl, Hg.out⟩
set_option maxRecDepth 100000 in
theorem isByte_r (x : Int) (w : World) : Calls Tryd.prog 21 #[.int .u8 x] w fun e w' => e = .returned (.bool (ownB x)) ∧ w = w' := by
  have hx : x = 9 ∨ x = 10 ∨ (x ≠ 9 ∧ x ≠ 10 ∧ 32 ≤ x ∧ x ≤ 126) ∨ (x ≠ 9 ∧ x ≠ 10 ∧ ¬ 32 ≤ x) ∨ (x ≠ 9 ∧ x ≠ 10 ∧ 32 ≤ x ∧ ¬ x ≤ 126) := by omega
  rcases hx with h | h | ⟨h1, h2, h3, h4⟩ | ⟨h1, h2, h3⟩ | ⟨h1, h2, h3, h4⟩
  · have E : ownB x = true := by simp [ownB, h]
    have t1 : (x == 9) = true := by simpa using h
    rw [E]; clear E h
    go_enter Tryd.func21, Tryd.ntmps21
    go_wp2
    go_ret
    exact ⟨rfl, rfl⟩
  · have E : ownB x = true := by simp [ownB, h]
    have t1 : (x == 9) = false := by rw [h]; rfl
    have t2 : (x == 10) = true := by simpa using h
    rw [E]; clear E h
    go_enter Tryd.func21, Tryd.ntmps21
    go_wp2
    go_ret
    exact ⟨rfl, rfl⟩
  · have E : ownB x = true := by simp [ownB, h3, h4]
    have t1 : (x == 9) = false := by simpa using h1
    have t2 : (x == 10) = false := by simpa using h2
    rw [E]; clear E h1 h2
    go_enter Tryd.func21, Tryd.ntmps21
    go_wp2
    go_ret
    exact ⟨rfl, rfl⟩
  · have E : ownB x = false := by simp [ownB, h1, h2, h3]
    have t1 : (x == 9) = false := by simpa using h1
    have t2 : (x == 10) = false := by simpa using h2
    have t3 : decide (32 ≤ x) = false := by simpa using h3
    rw [E]; clear E h1 h2 h3
    go_enter Tryd.func21, Tryd.ntmps21
    go_wp2
    go_ret
    exact ⟨rfl, rfl⟩
  · have E : ownB x = false := by simp [ownB, h1, h2, h3, h4]
    have t1 : (x == 9) = false := by simpa using h1
    have t2 : (x == 10) = false := by simpa using h2
    have t4 : decide (x ≤ 126) = false := by simpa using h4
    rw [E]; clear E h1 h2 h4
    go_enter Tryd.func21, Tryd.ntmps21
    go_wp2
    go_ret
    exact ⟨rfl, rfl⟩
end Go.Proofs.YtaoehbnjipegoaaDoor
