/- The reference's head, its OfText and its Looks: contracts for every text. -/
import Derived.Test.YthdchkjipafmfaaDoorCut
import Derived.Test.YthdchkjipafmfaaDoorPlainH
namespace Go.Proofs.YthdchkjipafmfaaDoor
open Go.RowKit

theorem isBlk_B (b : UInt8) : isBlk b = blkB (b.toNat : Int) := isBlk_iff b
theorem at_of {s : ByteArray} {k : Nat} {p : UInt8 → Bool} {t : Bool} (h : ∀ b, s.data.toList[k]? = some b → p b = t) (hk : k < s.size) : p s[k] = t := h _ (getL s k hk)
theorem fBlk (s : ByteArray) : ∀ k, k < nb s.data.toList → ∀ h : k < s.size, blkB (s[k].toNat : Int) = true := fun k hk h => by
  rw [← isBlk_B]
  obtain ⟨b, hb, hp⟩ := blk_at hk
  rw [getL s k h] at hb
  cases hb; exact hp
theorem fBlkEnd (s : ByteArray) (h : nb s.data.toList < s.size) : blkB (s[nb s.data.toList].toNat : Int) = false := by
  rw [← isBlk_B]; exact blk_end (getL s _ h)
theorem fDig (s : ByteArray) : ∀ k, hI s.data.toList ≤ k → k < hK s.data.toList → ∀ h : k < s.size, digB (s[k].toNat : Int) = true := fun k h1 h2 h => by
  rw [← isDig_iff]
  obtain ⟨b, hb, hp⟩ := dig_at h1 h2
  rw [getL s k h] at hb
  cases hb; exact hp
theorem fDigEnd (s : ByteArray) (h : hK s.data.toList < s.size) : digB (s[hK s.data.toList].toNat : Int) = false := by
  rw [← isDig_iff]; exact dig_end (getL s _ h)
theorem unb_cons (s : ByteArray) (h : nb s.data.toList < s.size) : ∃ r, unb s.data.toList = s[nb s.data.toList] :: r := by
  have := head_at s.data.toList
  rw [getL s _ h] at this
  cases hu : unb s.data.toList with
  | nil => rw [hu] at this; simp at this
  | cons a r => rw [hu] at this; simp at this; exact ⟨r, by rw [this]⟩
theorem hI_sgn (s : ByteArray) (h : nb s.data.toList < s.size) (e : ((s[nb s.data.toList].toNat : Int) == 43) = true ∨ ((s[nb s.data.toList].toNat : Int) == 45) = true) : hI s.data.toList = nb s.data.toList + 1 := by
  obtain ⟨r, hr⟩ := unb_cons s h
  have : isSgn s[nb s.data.toList] = true := by
    simp only [isSgn, Bool.or_eq_true, beq_iff_eq] at e ⊢; omega
  unfold hI; rw [hr]; simp only [sgL, this]; rfl
theorem hI_nosgn (s : ByteArray) (h : nb s.data.toList < s.size) (e : ((s[nb s.data.toList].toNat : Int) == 43) = false) (e' : ((s[nb s.data.toList].toNat : Int) == 45) = false) : hI s.data.toList = nb s.data.toList := by
  obtain ⟨r, hr⟩ := unb_cons s h
  have : isSgn s[nb s.data.toList] = false := by
    simp at e e'; simp [isSgn]; omega
  unfold hI; rw [hr]; simp only [sgL, this]; rfl
theorem hI_end (s : ByteArray) (h : ¬ nb s.data.toList < s.size) : hI s.data.toList = nb s.data.toList := by
  have h1 := hI_le s.data.toList
  have h2 := nb_le s.data.toList
  rw [show s.data.toList.length = s.size from by simp] at h1 h2
  have : nb s.data.toList ≤ hI s.data.toList := by unfold hI; omega
  omega

set_option maxHeartbeats 400000 in
theorem head_any (s : ByteArray) (w : World) (hs : s.size ≤ 140737488351232) : Calls Tryd.prog 55 #[.string s] w fun e w' => e = .returned (.tuple #[.int .i64 (hI s.data.toList : Int), .int .i64 (hK s.data.toList : Int)]) ∧ w = w' := by
  have F1 := Lib.hid (fBlk s)
  have F2 := Lib.hid (fDig s)
  have F3 := Lib.hid (fDigEnd s)
  have F4 := fBlkEnd s
  have hIK : hI s.data.toList ≤ hK s.data.toList := by unfold hK; omega
  have hKs : hK s.data.toList ≤ s.size := by
    have := hK_le s.data.toList
    rwa [show s.data.toList.length = s.size from by simp] at this
  have hns : nb s.data.toList ≤ s.size := by
    have := nb_le s.data.toList
    rwa [show s.data.toList.length = s.size from by simp] at this
  have C := hI_sgn s
  have D := hI_nosgn s
  have E := hI_end s
  have Hr := Lib.hid (rfl : Ending.returned (.tuple #[.int .i64 (hI s.data.toList : Int), .int .i64 (hK s.data.toList : Int)]) = Ending.returned (.tuple #[.int .i64 (hI s.data.toList : Int), .int .i64 (hK s.data.toList : Int)]))
  generalize hN : Ending.returned (.tuple #[.int .i64 (hI s.data.toList : Int), .int .i64 (hK s.data.toList : Int)]) = N at *
  clear Hr
  have Hr := Lib.hid hN.symm
  clear hN
  generalize nb s.data.toList = n at *
  generalize hK s.data.toList = m at *
  generalize hI s.data.toList = i at *
  by_cases h0 : n < s.size
  · have hb4 := F4 h0
    clear F4
    by_cases h43 : ((s[n].toNat : Int) == 43) = true
    · have h45 : ((s[n].toNat : Int) == 45) = false := by simp at h43 ⊢; omega
      obtain rfl := C h0 (.inl h43)
      clear C D E
      go_enter Tryd.func55, Tryd.ntmps55
      go_wp2_with fail
      go_loop [4] (fun i => ∃ k : Nat, k ≤ n ∧ i = .int .i64 k) (fun i => n - (intOf i).toNat)
      case atStart => exact ⟨0, Nat.zero_le _, rfl⟩
      case round =>
        obtain ⟨k, hk, rfl⟩ := hrel
        by_cases hlt : k < n
        · have hks : k < s.size := by omega
          have hb : blkB (s[k].toNat : Int) = true := F1.out k hlt hks
          go_wp2_with (go_at_call 56; refine (blank_any _ _).mono ?_; rintro e w' ⟨rfl, rfl⟩)
          go_round
          case rel => exact ⟨k + 1, by omega, by go_num⟩
          case measure => simp [intOf]; omega
        · obtain rfl : n = k := by omega
          go_wp2_with (go_at_call 56; refine (blank_any _ _).mono ?_; rintro e w' ⟨rfl, rfl⟩)
          go_loop [5] (fun i => ∃ j : Nat, n + 1 ≤ j ∧ j ≤ m ∧ i = .int .i64 j) (fun i => m - (intOf i).toNat)
          case atStart => exact ⟨n + 1, Nat.le_refl _, by omega, by go_num⟩
          case round =>
            obtain ⟨j, hj1, hj2, rfl⟩ := hrel
            by_cases hjm : j < m
            · have hjs : j < s.size := by omega
              have hd : digB (s[j].toNat : Int) = true := F2.out j (by omega) hjm hjs
              go_wp2_with (go_at_call 86; refine (digit_any _ _).mono ?_; rintro e w' ⟨rfl, rfl⟩)
              go_round
              case rel => exact ⟨j + 1, by omega, by omega, by go_num⟩
              case measure => simp [intOf]; omega
            · obtain rfl : m = j := by omega
              by_cases hjs : m < s.size
              · have hd : digB (s[m].toNat : Int) = false := F3.out hjs
                go_wp2_with (go_at_call 86; refine (digit_any _ _).mono ?_; rintro e w' ⟨rfl, rfl⟩)
                go_ret2
                exact ⟨by rw [Hr.out]; first | rfl | (simp; done), rfl⟩
              · go_wp2_with fail
                go_ret2
                exact ⟨by rw [Hr.out]; first | rfl | (simp; done), rfl⟩
    · by_cases h45 : ((s[n].toNat : Int) == 45) = true
      · obtain rfl := C h0 (.inr h45)
        clear C D E
        simp only [Bool.not_eq_true] at h43
        go_enter Tryd.func55, Tryd.ntmps55
        go_wp2_with fail
        go_loop [4] (fun i => ∃ k : Nat, k ≤ n ∧ i = .int .i64 k) (fun i => n - (intOf i).toNat)
        case atStart => exact ⟨0, Nat.zero_le _, rfl⟩
        case round =>
          obtain ⟨k, hk, rfl⟩ := hrel
          by_cases hlt : k < n
          · have hks : k < s.size := by omega
            have hb : blkB (s[k].toNat : Int) = true := F1.out k hlt hks
            go_wp2_with (go_at_call 56; refine (blank_any _ _).mono ?_; rintro e w' ⟨rfl, rfl⟩)
            go_round
            case rel => exact ⟨k + 1, by omega, by go_num⟩
            case measure => simp [intOf]; omega
          · obtain rfl : n = k := by omega
            go_wp2_with (go_at_call 56; refine (blank_any _ _).mono ?_; rintro e w' ⟨rfl, rfl⟩)
            go_loop [5] (fun i => ∃ j : Nat, n + 1 ≤ j ∧ j ≤ m ∧ i = .int .i64 j) (fun i => m - (intOf i).toNat)
            case atStart => exact ⟨n + 1, Nat.le_refl _, by omega, by go_num⟩
            case round =>
              obtain ⟨j, hj1, hj2, rfl⟩ := hrel
              by_cases hjm : j < m
              · have hjs : j < s.size := by omega
                have hd : digB (s[j].toNat : Int) = true := F2.out j (by omega) hjm hjs
                go_wp2_with (go_at_call 86; refine (digit_any _ _).mono ?_; rintro e w' ⟨rfl, rfl⟩)
                go_round
                case rel => exact ⟨j + 1, by omega, by omega, by go_num⟩
                case measure => simp [intOf]; omega
              · obtain rfl : m = j := by omega
                by_cases hjs : m < s.size
                · have hd : digB (s[m].toNat : Int) = false := F3.out hjs
                  go_wp2_with (go_at_call 86; refine (digit_any _ _).mono ?_; rintro e w' ⟨rfl, rfl⟩)
                  go_ret2
                  exact ⟨by rw [Hr.out]; first | rfl | (simp; done), rfl⟩
                · go_wp2_with fail
                  go_ret2
                  exact ⟨by rw [Hr.out]; first | rfl | (simp; done), rfl⟩
      · simp only [Bool.not_eq_true] at h43 h45
        obtain rfl := (D h0 h43 h45).symm
        clear C D E
        go_enter Tryd.func55, Tryd.ntmps55
        go_wp2_with fail
        go_loop [4] (fun i => ∃ k : Nat, k ≤ n ∧ i = .int .i64 k) (fun i => n - (intOf i).toNat)
        case atStart => exact ⟨0, Nat.zero_le _, rfl⟩
        case round =>
          obtain ⟨k, hk, rfl⟩ := hrel
          by_cases hlt : k < n
          · have hks : k < s.size := by omega
            have hb : blkB (s[k].toNat : Int) = true := F1.out k hlt hks
            go_wp2_with (go_at_call 56; refine (blank_any _ _).mono ?_; rintro e w' ⟨rfl, rfl⟩)
            go_round
            case rel => exact ⟨k + 1, by omega, by go_num⟩
            case measure => simp [intOf]; omega
          · obtain rfl : n = k := by omega
            go_wp2_with (go_at_call 56; refine (blank_any _ _).mono ?_; rintro e w' ⟨rfl, rfl⟩)
            go_loop [5] (fun i => ∃ j : Nat, n ≤ j ∧ j ≤ m ∧ i = .int .i64 j) (fun i => m - (intOf i).toNat)
            case atStart => exact ⟨n, Nat.le_refl _, by omega, by go_num⟩
            case round =>
              obtain ⟨j, hj1, hj2, rfl⟩ := hrel
              by_cases hjm : j < m
              · have hjs : j < s.size := by omega
                have hd : digB (s[j].toNat : Int) = true := F2.out j (by omega) hjm hjs
                go_wp2_with (go_at_call 86; refine (digit_any _ _).mono ?_; rintro e w' ⟨rfl, rfl⟩)
                go_round
                case rel => exact ⟨j + 1, by omega, by omega, by go_num⟩
                case measure => simp [intOf]; omega
              · obtain rfl : m = j := by omega
                by_cases hjs : m < s.size
                · have hd : digB (s[m].toNat : Int) = false := F3.out hjs
                  go_wp2_with (go_at_call 86; refine (digit_any _ _).mono ?_; rintro e w' ⟨rfl, rfl⟩)
                  go_ret2
                  exact ⟨by rw [Hr.out]; first | rfl | (simp; done), rfl⟩
                · go_wp2_with fail
                  go_ret2
                  exact ⟨by rw [Hr.out]; first | rfl | (simp; done), rfl⟩
  · obtain rfl := (E h0).symm
    clear C D E F4
    go_enter Tryd.func55, Tryd.ntmps55
    go_wp2_with fail
    go_loop [4] (fun i => ∃ k : Nat, k ≤ n ∧ i = .int .i64 k) (fun i => n - (intOf i).toNat)
    case atStart => exact ⟨0, Nat.zero_le _, rfl⟩
    case round =>
      obtain ⟨k, hk, rfl⟩ := hrel
      by_cases hlt : k < n
      · have hks : k < s.size := by omega
        have hb : blkB (s[k].toNat : Int) = true := F1.out k hlt hks
        go_wp2_with (go_at_call 56; refine (blank_any _ _).mono ?_; rintro e w' ⟨rfl, rfl⟩)
        go_round
        case rel => exact ⟨k + 1, by omega, by go_num⟩
        case measure => simp [intOf]; omega
      · obtain rfl : n = k := by omega
        go_wp2_with (go_at_call 56; refine (blank_any _ _).mono ?_; rintro e w' ⟨rfl, rfl⟩)
        go_loop [5] (fun i => ∃ j : Nat, n ≤ j ∧ j ≤ m ∧ i = .int .i64 j) (fun i => m - (intOf i).toNat)
        case atStart => exact ⟨n, Nat.le_refl _, by omega, by go_num⟩
        case round =>
          obtain ⟨j, hj1, hj2, rfl⟩ := hrel
          by_cases hjm : j < m
          · have hjs : j < s.size := by omega
            have hd : digB (s[j].toNat : Int) = true := F2.out j (by omega) hjm hjs
            go_wp2_with (go_at_call 86; refine (digit_any _ _).mono ?_; rintro e w' ⟨rfl, rfl⟩)
            go_round
            case rel => exact ⟨j + 1, by omega, by omega, by go_num⟩
            case measure => simp [intOf]; omega
          · obtain rfl : m = j := by omega
            by_cases hjs : m < s.size
            · have hd : digB (s[m].toNat : Int) = false := F3.out hjs
              go_wp2_with (go_at_call 86; refine (digit_any _ _).mono ?_; rintro e w' ⟨rfl, rfl⟩)
              go_ret2
              exact ⟨by rw [Hr.out]; first | rfl | (simp; done), rfl⟩
            · go_wp2_with fail
              go_ret2
              exact ⟨by rw [Hr.out]; first | rfl | (simp; done), rfl⟩

end Go.Proofs.YthdchkjipafmfaaDoor
