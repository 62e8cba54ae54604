/- The reference's OfText and Looks: contracts for every text; the walk of NumLooks. -/
import Derived.Test.YthdchkjipafmfaaDoorRef
import Derived.Test.YthdchkjipafmfaaDoorKnown
namespace Go.Proofs.YthdchkjipafmfaaDoor
open Go.RowKit

theorem neg_zero {l : List UInt8} (h : hI l = 0) : neg l = false := by
  unfold hI at h
  have h1 : sgL (unb l) = 0 := by omega
  unfold neg
  cases hu : unb l with
  | nil => rfl
  | cons a r =>
    rw [hu] at h1
    simp only [sgL] at h1
    split at h1
    · omega
    · rename_i hs
      simp [isSgn] at hs
      simp [negL, hs]
theorem neg_at (s : ByteArray) (h : 0 < hI s.data.toList) (h' : hI s.data.toList - 1 < s.size) : ((s[hI s.data.toList - 1].toNat : Int) == 45) = neg s.data.toList := by
  have e : hI s.data.toList = nb s.data.toList + sgL (unb s.data.toList) := rfl
  have h1 := sgL_one (unb s.data.toList)
  by_cases hs : sgL (unb s.data.toList) = 1
  · have hn : hI s.data.toList - 1 = nb s.data.toList := by omega
    simp only [hn] at h' ⊢
    obtain ⟨r, hr⟩ := unb_cons s h'
    unfold neg
    rw [hr]
    simp only [negL]
    rw [Bool.eq_iff_iff, beq_iff_eq, beq_iff_eq]; omega
  · have hs0 : sgL (unb s.data.toList) = 0 := by omega
    have hb := fBlk s (hI s.data.toList - 1) (by omega) h'
    have hf : neg s.data.toList = false := by
      unfold neg
      cases hu : unb s.data.toList with
      | nil => rfl
      | cons a r =>
        rw [hu] at hs0
        simp only [sgL] at hs0
        split at hs0
        · omega
        · rename_i hx
          simp [isSgn] at hx
          simp [negL, hx]
    rw [hf]
    generalize (s[hI s.data.toList - 1].toNat : Int) = c at *
    simp [blkB] at hb ⊢
    omega

set_option maxHeartbeats 400000 in
theorem ofText_any (s : ByteArray) (w : World) (hs : s.size ≤ 140737488351232) : Calls Tryd.prog 51 #[.string s] w fun e w' => e = .returned (.int .i64 (number s.data.toList)) ∧ w = w' := by
  have F2 := Lib.hid (fDig s)
  have FD := Lib.hid (fun (k : Nat) (h1 : hI s.data.toList ≤ k) (h2 : k < hK s.data.toList) (h : k < s.size) => digs_take h1 h2 (getL s k h))
  have N1 := neg_at s
  have N0 := neg_zero (l := s.data.toList)
  have hIK : hI s.data.toList ≤ hK s.data.toList := by unfold hK; omega
  have hKd : Hid ((digs s.data.toList).length = hK s.data.toList - hI s.data.toList) := Lib.hid (by unfold hK; omega)
  have hKs : hK s.data.toList ≤ s.size := by
    have := hK_le s.data.toList
    rwa [show s.data.toList.length = s.size from by simp] at this
  have hnum : Hid (number s.data.toList = if neg s.data.toList then -(val (digs s.data.toList) : Int) else (val (digs s.data.toList) : Int)) := Lib.hid rfl
  have hv := val_le (digs s.data.toList)
  unfold maxNum at hv
  have hd := (head_any s w hs)
  have Hd := Lib.hid hd
  clear hd
  generalize number s.data.toList = N at *
  generalize neg s.data.toList = ng at *
  generalize hK s.data.toList = K at *
  generalize hI s.data.toList = I at *
  go_enter Tryd.func51, Tryd.ntmps51
  go_wp2_with fail
  refine Hd.out.mono ?_
  rintro e w' ⟨rfl, rfl⟩
  go_wp2_with fail
  go_loop [5, 6] (fun n i => ∃ k : Nat, I ≤ k ∧ k ≤ K ∧ i = .int .i64 k ∧ ∃ m : Nat, m ≤ 90071992547409929 ∧ n = .int .i64 m ∧ Hid (min m maxNum = val ((digs s.data.toList).take (k - I)))) (fun _ i => K - (intOf i).toNat)
  case atStart => exact ⟨I, Nat.le_refl _, by omega, rfl, 0, Nat.zero_le _, rfl, Lib.hid (by simp [val, maxNum])⟩
  case round =>
    obtain ⟨k, hk1, hk2, rfl, m, hm, rfl, Hm⟩ := hrel
    by_cases hlt : k < K
    · have hks : k < s.size := by omega
      by_cases hmm : m ≤ 9007199254740992
      · have hb : digB (s[k].toNat : Int) = true := F2.out k hk1 hlt hks
        have hbs : Hid (IntKind.u8.wrap ((s[k].toNat : Int) - 48) = (s[k].toNat : Int) - 48) := Lib.hid (by rw [digB_true] at hb; have := s[k].toNat_lt; go_unwrap)
        have hb' := digB_true.1 hb
        have hstep : Hid (min (10 * m + (s[k].toNat - 48)) maxNum = val ((digs s.data.toList).take (k + 1 - I))) := Lib.hid (by
          rw [FD.out k hk1 hlt hks, val_snoc, ← Hm.out]; unfold maxNum; omega)
        clear hb hbs N1 N0
        go_wp2
        go_round
        case rel => exact ⟨k + 1, by omega, by omega, by go_num, 10 * m + (s[k].toNat - 48), by omega, by congr 1; omega, hstep⟩
        case measure => simp [intOf]; omega
      · have Hv : Hid (min m maxNum = val (digs s.data.toList)) := Lib.hid (by
          have : val ((digs s.data.toList).take (k - I)) = maxNum := by rw [← Hm.out]; unfold maxNum; omega
          rw [val_top this]; unfold maxNum; omega)
        have hmv : Hid ((min (m : Int) 9007199254740992) = (val (digs s.data.toList) : Int)) := Lib.hid (by have := Hv.out; unfold maxNum at this; omega)
        by_cases hI0 : 0 < I
        · have hx := N1 hI0 (by omega)
          clear N1 N0
          cases ng
          · go_wp2
            go_ret
            exact ⟨by rw [hnum.out, ← hmv.out]; rfl, rfl⟩
          · go_wp2
            go_ret
            exact ⟨by rw [hnum.out, ← hmv.out]; rfl, rfl⟩
        · obtain rfl : I = 0 := by omega
          obtain rfl := N0 rfl
          clear N1 N0
          go_wp2
          go_ret
          exact ⟨by rw [hnum.out, ← hmv.out]; rfl, rfl⟩
    · obtain rfl : K = k := by omega
      have Hv : Hid (min m maxNum = val (digs s.data.toList)) := Lib.hid (by
        rw [Hm.out, List.take_of_length_le (by rw [hKd.out]; omega)])
      have hmv : Hid ((min (m : Int) 9007199254740992) = (val (digs s.data.toList) : Int)) := Lib.hid (by have := Hv.out; unfold maxNum at this; omega)
      by_cases hI0 : 0 < I
      · have hx := N1 hI0 (by omega)
        clear N1 N0
        cases ng
        · go_wp2
          go_ret
          exact ⟨by rw [hnum.out, ← hmv.out]; rfl, rfl⟩
        · go_wp2
          go_ret
          exact ⟨by rw [hnum.out, ← hmv.out]; rfl, rfl⟩
      · obtain rfl : I = 0 := by omega
        obtain rfl := N0 rfl
        clear N1 N0
        go_wp2
        go_ret
        exact ⟨by rw [hnum.out, ← hmv.out]; rfl, rfl⟩

theorem looks_take {l : List UInt8} {k : Nat} (h1 : hK l ≤ k) {b : UInt8} (hb : l[k]? = some b) : (rest l).take (k + 1 - hK l) = (rest l).take (k - hK l) ++ [b] := by
  have hb' : (rest l)[k - hK l]? = some b := by rw [rest_drop, List.getElem?_drop, ← hb]; congr 1; omega
  rw [show k + 1 - hK l = (k - hK l) + 1 from by omega, List.take_add_one, hb']; rfl
theorem looks_no {l : List UInt8} {k : Nat} (h1 : hK l ≤ k) {b : UInt8} (hb : l[k]? = some b) (h : isBlk b = false) : looks l = false := by
  have hb' : (rest l)[k - hK l]? = some b := by rw [rest_drop, List.getElem?_drop, ← hb]; congr 1; omega
  unfold looks
  have : (rest l).all isBlk = false := by
    rw [Bool.eq_false_iff]; intro hh
    rw [List.all_eq_true] at hh
    rw [hh b (List.mem_of_getElem? hb')] at h; cases h
  rw [this]; simp
set_option maxHeartbeats 400000 in
theorem refLooks_any (s : ByteArray) (w : World) (hs : s.size ≤ 140737488351232) : Calls Tryd.prog 26 #[.string s] w fun e w' => e = .returned (.bool (looks s.data.toList)) ∧ w = w' := by
  have F := Lib.hid (fun (k : Nat) (h1 : hK s.data.toList ≤ k) (h : k < s.size) => looks_take h1 (getL s k h))
  have G := Lib.hid (fun (k : Nat) (h1 : hK s.data.toList ≤ k) (h : k < s.size) => looks_no h1 (getL s k h))
  have hIK : hI s.data.toList ≤ hK s.data.toList := by unfold hK; omega
  have hKd : (digs s.data.toList).length = hK s.data.toList - hI s.data.toList := by unfold hK; omega
  have hR : Hid ((rest s.data.toList).length = s.size - hK s.data.toList) := Lib.hid (by rw [rest_drop]; simp)
  have hKs : hK s.data.toList ≤ s.size := by
    have := hK_le s.data.toList
    rwa [show s.data.toList.length = s.size from by simp] at this
  have L0 : Hid (hI s.data.toList = hK s.data.toList → looks s.data.toList = false) := Lib.hid (fun h => by
    unfold looks; rw [List.eq_nil_of_length_eq_zero (l := digs s.data.toList) (by omega)]; rfl)
  have L1 : Hid (hI s.data.toList < hK s.data.toList → looks s.data.toList = (rest s.data.toList).all isBlk) := Lib.hid (fun h => by
    unfold looks
    have : (digs s.data.toList).isEmpty = false := by
      cases hd : digs s.data.toList with
      | nil => rw [hd] at hKd; simp at hKd; omega
      | cons a r => rfl
    rw [this]; rfl)
  have Hd := Lib.hid (head_any s w hs)
  clear hKd
  generalize looks s.data.toList = N at *
  generalize hK s.data.toList = K at *
  generalize hI s.data.toList = I at *
  by_cases hlt : I < K
  · have hne : ((I : Int) == (K : Int)) = false := by simp; omega
    have L := Lib.hid (L1.out hlt)
    clear L0 L1
    go_enter Tryd.func26, Tryd.ntmps26
    go_wp2_with fail
    refine Hd.out.mono ?_
    rintro e w' ⟨rfl, rfl⟩
    go_wp2_with fail
    go_loop [5] (fun i => ∃ k : Nat, K ≤ k ∧ k ≤ s.size ∧ i = .int .i64 k ∧ Hid (((rest s.data.toList).take (k - K)).all isBlk = true)) (fun i => s.size - (intOf i).toNat)
    case atStart => exact ⟨K, Nat.le_refl _, hKs, rfl, Lib.hid (by simp)⟩
    case round =>
      obtain ⟨k, hk1, hk2, rfl, Hk⟩ := hrel
      by_cases hks : k < s.size
      · cases hb : blkB (s[k].toNat : Int)
        · have hN : Hid (N = false) := Lib.hid (G.out k hk1 hks ((isBlk_B _).trans hb))
          go_wp2_with (go_at_call 56; refine (blank_any _ _).mono ?_; rintro e w' ⟨rfl, rfl⟩)
          go_ret
          exact ⟨by rw [hN.out]; rfl, rfl⟩
        · have hst : Hid (((rest s.data.toList).take (k + 1 - K)).all isBlk = true) := Lib.hid (by
            rw [F.out k hk1 hks, List.all_append, Hk.out]; simp [isBlk_B, hb])
          go_wp2_with (go_at_call 56; refine (blank_any _ _).mono ?_; rintro e w' ⟨rfl, rfl⟩)
          go_round
          case rel => exact ⟨k + 1, by omega, by omega, by go_num, hst⟩
          case measure => simp [intOf]; omega
      · have hN : Hid (N = true) := Lib.hid (by
          have := Hk.out
          rw [List.take_of_length_le (by rw [hR.out]; omega)] at this
          rw [L.out, this])
        go_wp2
        go_ret
        exact ⟨by rw [hN.out]; rfl, rfl⟩
  · have hEq : I = K := by omega
    have hN : Hid (N = false) := Lib.hid (L0.out hEq)
    have hne : ((I : Int) == (K : Int)) = true := by simp; omega
    clear L0 L1 hEq
    go_enter Tryd.func26, Tryd.ntmps26
    go_wp2_with fail
    refine Hd.out.mono ?_
    rintro e w' ⟨rfl, rfl⟩
    go_wp2
    go_ret
    exact ⟨by rw [hN.out]; rfl, rfl⟩

theorem law_looks (s : ByteArray) (hs : s.size ≤ 140737488351232) (w : World) :
    Calls Tryd.prog 4 #[.string s] w fun e w' => e = .returned (.bool true) ∧ Gr w w' := by
  by_cases hl : 16384 < s.size
  · go_enter Tryd.func4, Tryd.ntmps4
    go_wp2_with (first | (go_at_call 15; refine (long_any _ _ (by omega)).mono ?_; rintro e w' ⟨rfl, rfl⟩) | (go_at_call 16; refine (known_any _).mono ?_; rintro e w' ⟨rfl, hg⟩))
    go_ret
    exact ⟨rfl, hg⟩
  · cases hN : looks s.data.toList
    all_goals
      go_enter Tryd.func4, Tryd.ntmps4
      go_wp2_with (first | (go_at_call 15; refine (long_any _ _ (by omega)).mono ?_; rintro e w' ⟨rfl, rfl⟩))
      refine (looks_any _ _ hs).mono ?_
      rintro e w1 ⟨rfl, hg1⟩
      go_wp2_with fail
      refine (refLooks_any _ _ hs).mono ?_
      rintro e w' ⟨rfl, rfl⟩
      go_wp2_with fail
      refine (known_any _).mono ?_
      rintro e w' ⟨rfl, hg⟩
      go_wp2
      go_ret
      exact ⟨rfl, hg1.trans hg⟩
end Go.Proofs.YthdchkjipafmfaaDoor
