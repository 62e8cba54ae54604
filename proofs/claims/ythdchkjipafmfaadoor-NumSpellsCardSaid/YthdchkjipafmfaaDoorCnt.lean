/- Counters: the plain functions; which texts count, on both sides. -/
import Derived.Test.YthdchkjipafmfaaDoorScal
import Derived.Test.YthdchkjipafmfaaDoorOrd
namespace Go.Proofs.YthdchkjipafmfaaDoor
open Go.RowKit Go.Shelf

def letB (n : Int) : Bool := (decide (97 ≤ n) && decide (n ≤ 122)) || (decide (65 ≤ n) && decide (n ≤ 90))
theorem letB_true {n : Int} : letB n = true ↔ (97 ≤ n ∧ n ≤ 122) ∨ (65 ≤ n ∧ n ≤ 90) := by simp [letB]
theorem letB_false {n : Int} : letB n = false ↔ ¬ ((97 ≤ n ∧ n ≤ 122) ∨ (65 ≤ n ∧ n ≤ 90)) := by rw [← Bool.not_eq_true, letB_true]
def lets : List UInt8 → Bool
  | [] => true
  | c :: r => if letB (c.toNat : Int) = true then lets r else (c :: r).all isDig
/-- which texts count -/
def cnt (l : List UInt8) : Bool := !l.isEmpty && lets l
theorem lets_on {c : UInt8} {r : List UInt8} (h : letB (c.toNat : Int) = true) : lets (c :: r) = lets r := by rw [lets, if_pos h]
theorem lets_off {c : UInt8} {r : List UInt8} (h : letB (c.toNat : Int) = false) : lets (c :: r) = (c :: r).all isDig := by rw [lets, if_neg (by rw [h]; decide)]
theorem lets_pre (c : UInt8) : ∀ p : List UInt8, lets (p ++ [c]) = true → lets p = true
  | [], _ => rfl
  | a :: p, h => by
    rcases ha : letB (a.toNat : Int) with _ | _
    · rw [List.cons_append, lets_off ha] at h
      rw [lets_off ha]
      rw [List.all_eq_true] at h ⊢
      intro x hx
      exact h x (by rw [← List.cons_append]; exact List.mem_append_left _ hx)
    · rw [List.cons_append, lets_on ha] at h
      rw [lets_on ha]
      exact lets_pre c p h
theorem lets_mem : ∀ {l : List UInt8}, lets l = true → ∀ b ∈ l, letB (b.toNat : Int) = true ∨ digB (b.toNat : Int) = true
  | [], _, b, hb => by cases hb
  | a :: l, h, b, hb => by
    rcases ha : letB (a.toNat : Int) with _ | _
    · rw [lets_off ha, List.all_eq_true] at h
      exact .inr (by rw [← isDig_iff]; exact h b hb)
    · rw [lets_on ha] at h
      rcases List.mem_cons.1 hb with rfl | hb
      · exact .inl ha
      · exact lets_mem h b hb
theorem all_on {c : UInt8} {r : List UInt8} (h : digB (c.toNat : Int) = true) : (c :: r).all isDig = r.all isDig := by rw [List.all_cons, isDig_iff, h, Bool.true_and]
theorem all_off {c : UInt8} {r : List UInt8} (h : digB (c.toNat : Int) = false) : (c :: r).all isDig = false := by rw [List.all_cons, isDig_iff, h, Bool.false_and]
theorem isLetter_any (n : Int) (w : World) : Calls Tryd.prog 124 #[.int .u8 n] w fun e w' => e = .returned (.bool (letB n)) ∧ w = w' := by
  go_enter Tryd.func124, Tryd.ntmps124
  go_wp2
  all_goals (go_ret; exact ⟨by first | (simp_all [letB]; done) | (simp_all [letB]; omega), rfl⟩)
theorem letter_any (n : Int) (w : World) : Calls Tryd.prog 123 #[.int .u8 n] w fun e w' => e = .returned (.bool (letB n)) ∧ w = w' := by
  go_enter Tryd.func123, Tryd.ntmps123
  go_wp2
  all_goals (go_ret; exact ⟨by first | (simp_all [letB]; done) | (simp_all [letB]; omega), rfl⟩)

set_option maxHeartbeats 1000000 in
theorem isCounter_any (s : ByteArray) (w : World) (hs : s.size ≤ 140737488351232) : Calls Tryd.prog 104 #[.string s] w fun e w' => e = .returned (.bool (cnt s.data.toList)) ∧ Gr w w' := by
  have hC : Hid (cnt s.data.toList = (!s.toList.isEmpty && lets s.data.toList)) := Lib.hid (by rw [ByteArray.toList_eq]; rfl)
  by_cases h0 : 0 < s.size
  · have hne := ne_of_pos s h0
    have hne' : s.toList.isEmpty = false := by simpa using hne
    have HC : Hid (cnt s.data.toList = lets s.data.toList) := Lib.hid (by rw [hC.out, hne, Bool.true_and])
    clear hC
    go_enter Tryd.func104, Tryd.ntmps104
    go_wp2_with fail
    go_loop [3] (fun i => ∃ k : Nat, k ≤ s.size ∧ i = .int .i64 k ∧ Hid (cnt s.data.toList = lets (s.data.toList.drop k))) (fun i => s.size - (intOf i).toNat)
    case atStart => exact ⟨0, Nat.zero_le _, rfl, HC⟩
    case round =>
      obtain ⟨k, hk, rfl, Hk⟩ := hrel
      clear HC
      by_cases hlt : k < s.size
      · have Hd : Hid (s.data.toList.drop k = s[k] :: s.data.toList.drop (k + 1)) := Lib.hid (drop_at s k hlt)
        cases hc : letB (s[k].toNat : Int)
        · have HC : Hid (cnt s.data.toList = (s.data.toList.drop k).all isDig) := Lib.hid (by rw [Hk.out, Hd.out, lets_off hc])
          clear Hk Hd
          go_wp2_with (go_at_call 124; refine (isLetter_any _ _).mono ?_; rintro e w' ⟨rfl, rfl⟩)
          go_loop [3] (fun i => ∃ j : Nat, j ≤ s.size ∧ i = .int .i64 j ∧ Hid (cnt s.data.toList = (s.data.toList.drop j).all isDig)) (fun i => s.size - (intOf i).toNat)
          case atStart => exact ⟨k, hk, rfl, HC⟩
          case round =>
            clear HC
            obtain ⟨j, hj, rfl, Hj⟩ := hrel
            by_cases hlj : j < s.size
            · have Hd : Hid (s.data.toList.drop j = s[j] :: s.data.toList.drop (j + 1)) := Lib.hid (drop_at s j hlj)
              cases hd : digB (s[j].toNat : Int)
              · have HF : Hid (cnt s.data.toList = false) := Lib.hid (by rw [Hj.out, Hd.out, all_off hd])
                clear Hj Hd
                have hje : ((j : Int) == (s.size : Int)) = false := by simp; omega
                go_wp2_with (go_at_call 78; refine (isDigit_any _ _).mono ?_; rintro e w' ⟨rfl, rfl⟩)
                go_ret
                exact ⟨by rw [HF.out]; rfl, Gr.refl w⟩
              · go_wp2_with (go_at_call 78; refine (isDigit_any _ _).mono ?_; rintro e w' ⟨rfl, rfl⟩)
                go_round
                case rel => exact ⟨j + 1, by omega, by go_num, Lib.hid (by rw [Hj.out, Hd.out, all_on hd])⟩
                case measure => simp [intOf]; omega
            · obtain rfl : j = s.size := by omega
              have HF : Hid (cnt s.data.toList = true) := Lib.hid (by rw [Hj.out, nil_at s s.size (Nat.le_refl _)]; rfl)
              clear Hj
              go_wp2
              go_ret
              exact ⟨by rw [HF.out]; rfl, Gr.refl w⟩
        · go_wp2_with (go_at_call 124; refine (isLetter_any _ _).mono ?_; rintro e w' ⟨rfl, rfl⟩)
          go_round
          case rel => exact ⟨k + 1, by omega, by go_num, Lib.hid (by rw [Hk.out, Hd.out, lets_on hc])⟩
          case measure => simp [intOf]; omega
      · obtain rfl : k = s.size := by omega
        have HF : Hid (cnt s.data.toList = true) := Lib.hid (by rw [Hk.out, nil_at s s.size (Nat.le_refl _)]; rfl)
        clear Hk
        go_wp2_with fail
        go_loop [3] (fun i => i = .int .i64 s.size) (fun _ => 0)
        case atStart => rfl
        case round =>
          obtain rfl := hrel
          go_wp2
          go_ret
          exact ⟨by rw [HF.out]; rfl, Gr.refl w⟩
  · have hne : s.toList.isEmpty = true := by rw [ByteArray.toList_eq, nil_of_zero s h0]; rfl
    have hz : s.size = 0 := by omega
    have HF : Hid (cnt s.data.toList = false) := Lib.hid (by rw [hC.out, hne]; rfl)
    clear hC h0
    go_enter Tryd.func104, Tryd.ntmps104
    go_wp2_with fail
    go_loop [3] (fun i => i = .int .i64 0) (fun _ => 0)
    case atStart => rfl
    case round =>
      obtain rfl := hrel
      go_wp2_with fail
      go_loop [3] (fun i => i = .int .i64 0) (fun _ => 0)
      case atStart => rfl
      case round =>
        obtain rfl := hrel
        go_wp2
        go_ret
        exact ⟨by rw [HF.out]; rfl, Gr.refl w⟩

set_option maxHeartbeats 1000000 in
theorem counts_any (s : ByteArray) (w : World) (hs : s.size ≤ 140737488351232) : Calls Tryd.prog 103 #[.string s] w fun e w' => e = .returned (.bool (cnt s.data.toList)) ∧ Gr w w' := by
  have hC : Hid (cnt s.data.toList = (!s.toList.isEmpty && lets s.data.toList)) := Lib.hid (by rw [ByteArray.toList_eq]; rfl)
  by_cases h0 : 0 < s.size
  · have hne := ne_of_pos s h0
    have hne' : s.toList.isEmpty = false := by simpa using hne
    have HC : Hid (cnt s.data.toList = lets s.data.toList) := Lib.hid (by rw [hC.out, hne, Bool.true_and])
    clear hC
    go_enter Tryd.func103, Tryd.ntmps103
    go_wp2_with fail
    go_loop [3] (fun i => ∃ k : Nat, k ≤ s.size ∧ i = .int .i64 k ∧ Hid (cnt s.data.toList = lets (s.data.toList.drop k))) (fun i => s.size - (intOf i).toNat)
    case atStart => exact ⟨0, Nat.zero_le _, rfl, HC⟩
    case round =>
      obtain ⟨k, hk, rfl, Hk⟩ := hrel
      clear HC
      by_cases hlt : k < s.size
      · have Hd : Hid (s.data.toList.drop k = s[k] :: s.data.toList.drop (k + 1)) := Lib.hid (drop_at s k hlt)
        cases hc : letB (s[k].toNat : Int)
        · have HC : Hid (cnt s.data.toList = (s.data.toList.drop k).all isDig) := Lib.hid (by rw [Hk.out, Hd.out, lets_off hc])
          clear Hk Hd
          go_wp2_with (go_at_call 123; refine (letter_any _ _).mono ?_; rintro e w' ⟨rfl, rfl⟩)
          go_loop [3] (fun i => ∃ j : Nat, j ≤ s.size ∧ i = .int .i64 j ∧ Hid (cnt s.data.toList = (s.data.toList.drop j).all isDig)) (fun i => s.size - (intOf i).toNat)
          case atStart => exact ⟨k, hk, rfl, HC⟩
          case round =>
            clear HC
            obtain ⟨j, hj, rfl, Hj⟩ := hrel
            by_cases hlj : j < s.size
            · have Hd : Hid (s.data.toList.drop j = s[j] :: s.data.toList.drop (j + 1)) := Lib.hid (drop_at s j hlj)
              cases hd : digB (s[j].toNat : Int)
              · have HF : Hid (cnt s.data.toList = false) := Lib.hid (by rw [Hj.out, Hd.out, all_off hd])
                clear Hj Hd
                have hje : ((j : Int) == (s.size : Int)) = false := by simp; omega
                go_wp2_with (go_at_call 86; refine (digit_any _ _).mono ?_; rintro e w' ⟨rfl, rfl⟩)
                go_ret
                exact ⟨by rw [HF.out]; rfl, Gr.refl w⟩
              · go_wp2_with (go_at_call 86; refine (digit_any _ _).mono ?_; rintro e w' ⟨rfl, rfl⟩)
                go_round
                case rel => exact ⟨j + 1, by omega, by go_num, Lib.hid (by rw [Hj.out, Hd.out, all_on hd])⟩
                case measure => simp [intOf]; omega
            · obtain rfl : j = s.size := by omega
              have HF : Hid (cnt s.data.toList = true) := Lib.hid (by rw [Hj.out, nil_at s s.size (Nat.le_refl _)]; rfl)
              clear Hj
              go_wp2
              go_ret
              exact ⟨by rw [HF.out]; rfl, Gr.refl w⟩
        · go_wp2_with (go_at_call 123; refine (letter_any _ _).mono ?_; rintro e w' ⟨rfl, rfl⟩)
          go_round
          case rel => exact ⟨k + 1, by omega, by go_num, Lib.hid (by rw [Hk.out, Hd.out, lets_on hc])⟩
          case measure => simp [intOf]; omega
      · obtain rfl : k = s.size := by omega
        have HF : Hid (cnt s.data.toList = true) := Lib.hid (by rw [Hk.out, nil_at s s.size (Nat.le_refl _)]; rfl)
        clear Hk
        go_wp2_with fail
        go_loop [3] (fun i => i = .int .i64 s.size) (fun _ => 0)
        case atStart => rfl
        case round =>
          obtain rfl := hrel
          go_wp2
          go_ret
          exact ⟨by rw [HF.out]; rfl, Gr.refl w⟩
  · have hne : s.toList.isEmpty = true := by rw [ByteArray.toList_eq, nil_of_zero s h0]; rfl
    have hz : s.size = 0 := by omega
    have HF : Hid (cnt s.data.toList = false) := Lib.hid (by rw [hC.out, hne]; rfl)
    clear hC h0
    go_enter Tryd.func103, Tryd.ntmps103
    go_wp2_with fail
    go_loop [3] (fun i => i = .int .i64 0) (fun _ => 0)
    case atStart => rfl
    case round =>
      obtain rfl := hrel
      go_wp2_with fail
      go_loop [3] (fun i => i = .int .i64 0) (fun _ => 0)
      case atStart => rfl
      case round =>
        obtain rfl := hrel
        go_wp2
        go_ret
        exact ⟨by rw [HF.out]; rfl, Gr.refl w⟩

end Go.Proofs.YthdchkjipafmfaaDoor
