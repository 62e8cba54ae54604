/- cut, numberIn, Looks of package num: contracts for every text. -/
import Derived.Test.YthdchkjipafmfaaDoorBase
import Derived.Test.YthdchkjipafmfaaDoorPlain
import Derived.Test.YthdchkjipafmfaaDoorShelf
import Derived.Deep.QuietTactic
import Derived.BigQuiet
import Derived.Outline
import Derived.Deep.DeepFit
namespace Go.Proofs.YthdchkjipafmfaaDoor
open Go.RowKit Go.Shelf

theorem trimLeft_any (s : ByteArray) (w : World) : Calls Tryd.prog 77 #[.string s, .string ⟨#[9, 10, 13, 32]⟩] w fun e w' => ∃ r : ByteArray, r.data.toList = unb s.data.toList ∧ e = .returned (.string r) ∧ Gr w w' := by
  have h := Any.strings_TrimLeft_laid Tryd.lays161 (by kernel_rfl) s ⟨#[9, 10, 13, 32]⟩ w (by decide) (ascii_of_all (by decide))
  change Calls Tryd.prog 77 _ _ _ at h
  exact h.mono fun e w' ⟨he, hb⟩ => ⟨_, by simp [unb_eq], he, hb⟩
theorem trim_any (s : ByteArray) (w : World) (hs : s.size ≤ 9223372036854775807) : Calls Tryd.prog 54 #[.string s, .string ⟨#[9, 10, 13, 32]⟩] w fun e w' => ∃ r : ByteArray, (r.data.toList = [] ↔ s.data.toList.all isBlk = true) ∧ e = .returned (.string r) ∧ Gr w w' := by
  have h := Any.strings_Trim_laid Tryd.lays160 (by kernel_rfl) s ⟨#[9, 10, 13, 32]⟩ w hs (by decide) (ascii_of_all (by decide))
  change Calls Tryd.prog 54 _ _ _ at h
  exact h.mono fun e w' ⟨he, hb⟩ => ⟨_, by simpa using trim_eq s.data.toList, he, hb⟩

theorem isDig_iff (b : UInt8) : isDig b = digB (b.toNat : Int) := by
  unfold isDig digB
  congr 1 <;> (rw [Bool.eq_iff_iff]; simp <;> omega)
theorem getL (r : ByteArray) (k : Nat) (h : k < r.size) : r.data.toList[k]? = some r[k] := by
  rw [List.getElem?_eq_getElem (by simpa using h)]; rfl
theorem getL_none (r : ByteArray) (k : Nat) (h : ¬ k < r.size) : r.data.toList[k]? = none := by
  rw [List.getElem?_eq_none]; simpa using h
theorem drop1 (r : ByteArray) : (r.extract 1 r.size).data.toList = r.data.toList.drop 1 := by
  simp [List.take_of_length_le]

theorem nil_of_zero (r : ByteArray) (h : ¬ 0 < r.size) : r.data.toList = [] :=
  List.eq_nil_of_length_eq_zero (Nat.eq_zero_of_le_zero (Nat.not_lt.1 h))
theorem cons_of_pos (r : ByteArray) (h : 0 < r.size) : ∃ l, r.data.toList = r[0] :: l := by
  have := getL r 0 h
  cases hl : r.data.toList with
  | nil => rw [hl] at this; simp at this
  | cons a l => rw [hl] at this; simp at this; exact ⟨l, by rw [this]⟩
theorem ne_of_pos (r : ByteArray) (h : 0 < r.size) : (!r.toList.isEmpty) = true := by
  obtain ⟨l, hl⟩ := cons_of_pos r h
  rw [ByteArray.toList_eq, hl]; rfl
theorem sgn_43 {r : ByteArray} (h : 0 < r.size) (h43 : ((r[0].toNat : Int) == 43) = true) : negL r.data.toList = false ∧ sgL r.data.toList = 1 := by
  obtain ⟨l, hl⟩ := cons_of_pos r h
  rw [hl]; simp at h43; simp [negL, sgL, isSgn]; omega
theorem sgn_45 {r : ByteArray} (h : 0 < r.size) (h45 : ((r[0].toNat : Int) == 45) = true) : negL r.data.toList = true ∧ sgL r.data.toList = 1 := by
  obtain ⟨l, hl⟩ := cons_of_pos r h
  rw [hl]; simp at h45; simp [negL, sgL, isSgn]; omega
theorem sgn_no {r : ByteArray} (h : 0 < r.size) (h43 : ((r[0].toNat : Int) == 43) = false) (h45 : ((r[0].toNat : Int) == 45) = false) : negL r.data.toList = false ∧ sgL r.data.toList = 0 := by
  obtain ⟨l, hl⟩ := cons_of_pos r h
  rw [hl]; simp at h43 h45; simp [negL, sgL, isSgn]; omega
theorem sgn_nil {r : ByteArray} (h : ¬ 0 < r.size) : negL r.data.toList = false ∧ sgL r.data.toList = 0 := by
  rw [nil_of_zero r h]; simp [negL, sgL]

theorem cut_end {s q : ByteArray} {k : Nat} (hb : body s.data.toList = q.data.toList) (h : (q.data.toList.take k).all isDig = true) (he : ∀ b, q.data.toList[k]? = some b → isDig b = false) :
    (q.extract 0 k).data.toList = digs s.data.toList ∧ (q.extract k q.size).data.toList = rest s.data.toList := by
  obtain ⟨h1, h2⟩ := span_at h he
  unfold digs rest
  rw [hb, h1, h2]
  constructor <;> simp [List.take_of_length_le]
theorem Gr.drewN {a b : World} (h : Gr a b) (n : Nat) : Gr a (b.drewN n) := by
  have h' : Below a.heap.size a b := h
  exact ⟨h'.os, h'.tape, h'.output, h'.size, h'.block⟩

set_option maxHeartbeats 400000 in
theorem cut_any (s : ByteArray) (w : World) (hs : s.size ≤ 140737488351232) : Calls Tryd.prog 53 #[.string s] w fun e w' => ∃ d r : ByteArray, d.data.toList = digs s.data.toList ∧ r.data.toList = rest s.data.toList ∧ e = .returned (.tuple #[.bool (neg s.data.toList), .string d, .string r]) ∧ Gr w w' := by
  go_enter Tryd.func53, Tryd.ntmps53
  go_wp2_with fail
  refine (trimLeft_any _ _).mono ?_
  rintro e w1 ⟨r, hr, rfl, hg⟩
  have hsz : r.size ≤ 140737488351232 := by
    have : r.data.toList.length ≤ s.data.toList.length := by
      rw [hr]; exact List.IsSuffix.length_le (List.dropWhile_suffix _)
    simp at this; change r.data.size ≤ s.data.size at this; change s.data.size ≤ _ at hs; change r.data.size ≤ _; omega
  have hneg : neg s.data.toList = negL r.data.toList := by rw [hr]; rfl
  have hbody : body s.data.toList = r.data.toList.drop (sgL r.data.toList) := by rw [hr]; rfl
  have Hn := Lib.hid hneg
  have Hb := Lib.hid hbody
  clear hneg hbody hr
  by_cases h0 : 0 < r.size
  · have hne := ne_of_pos r h0
    by_cases h43 : ((r[0].toNat : Int) == 43) = true
    · have h45 : ((r[0].toNat : Int) == 45) = false := by simp at h43 ⊢; omega
      have Hc := Lib.hid (And.intro (Hn.out.trans (sgn_43 h0 h43).1) (Hb.out.trans ((congrArg (List.drop · r.data.toList) (sgn_43 h0 h43).2).trans (drop1 r).symm)))
      clear Hn Hb
      go_wp2_with fail
      have hq : (r.extract 1 r.size).size ≤ 140737488351232 := by simp; omega
      generalize r.extract 1 r.size = q at *
      go_loop [5] (fun i => ∃ k : Nat, k ≤ q.size ∧ i = .int .i64 k ∧ Hid ((q.data.toList.take k).all isDig = true)) (fun i => q.size - (intOf i).toNat)
      case atStart => exact ⟨0, Nat.zero_le _, rfl, Lib.hid (by simp)⟩
      case round =>
        obtain ⟨k, hk, rfl, Hall⟩ := hrel
        by_cases hlt : k < q.size
        · cases hd : digB (q[k].toNat : Int)
          · go_wp2_with (go_at_call 78; refine (isDigit_any _ _).mono ?_; rintro e w' ⟨rfl, rfl⟩)
            go_quiet (fail)
            go_wp2
            go_ret3
            obtain ⟨e1, e2⟩ := cut_end Hc.out.2 Hall.out (fun b hb => by rw [getL _ _ hlt] at hb; cases hb; exact (isDig_iff _).trans hd)
            exact ⟨_, _, e1, e2, (by rw [Hc.out.1]; rfl), hg.drewN _⟩
          · go_wp2_with (go_at_call 78; refine (isDigit_any _ _).mono ?_; rintro e w' ⟨rfl, rfl⟩)
            go_round
            case rel => exact ⟨k + 1, by omega, by go_num, Lib.hid (all_snoc Hall.out (getL _ _ hlt) ((isDig_iff _).trans hd))⟩
            case measure => simp [intOf]; omega
        · go_wp2_with fail
          go_quiet (fail)
          go_wp2
          go_ret3
          obtain ⟨e1, e2⟩ := cut_end Hc.out.2 Hall.out (fun b hb => by rw [getL_none _ _ hlt] at hb; cases hb)
          exact ⟨_, _, e1, e2, (by rw [Hc.out.1]; rfl), hg.drewN _⟩
    · by_cases h45 : ((r[0].toNat : Int) == 45) = true
      · have Hc := Lib.hid (And.intro (Hn.out.trans (sgn_45 h0 h45).1) (Hb.out.trans ((congrArg (List.drop · r.data.toList) (sgn_45 h0 h45).2).trans (drop1 r).symm)))
        clear Hn Hb
        go_wp2_with fail
        have hq : (r.extract 1 r.size).size ≤ 140737488351232 := by simp; omega
        generalize r.extract 1 r.size = q at *
        go_loop [5] (fun i => ∃ k : Nat, k ≤ q.size ∧ i = .int .i64 k ∧ Hid ((q.data.toList.take k).all isDig = true)) (fun i => q.size - (intOf i).toNat)
        case atStart => exact ⟨0, Nat.zero_le _, rfl, Lib.hid (by simp)⟩
        case round =>
          obtain ⟨k, hk, rfl, Hall⟩ := hrel
          by_cases hlt : k < q.size
          · cases hd : digB (q[k].toNat : Int)
            · go_wp2_with (go_at_call 78; refine (isDigit_any _ _).mono ?_; rintro e w' ⟨rfl, rfl⟩)
              go_quiet (fail)
              go_wp2
              go_ret3
              obtain ⟨e1, e2⟩ := cut_end Hc.out.2 Hall.out (fun b hb => by rw [getL _ _ hlt] at hb; cases hb; exact (isDig_iff _).trans hd)
              exact ⟨_, _, e1, e2, (by rw [Hc.out.1]; rfl), hg.drewN _⟩
            · go_wp2_with (go_at_call 78; refine (isDigit_any _ _).mono ?_; rintro e w' ⟨rfl, rfl⟩)
              go_round
              case rel => exact ⟨k + 1, by omega, by go_num, Lib.hid (all_snoc Hall.out (getL _ _ hlt) ((isDig_iff _).trans hd))⟩
              case measure => simp [intOf]; omega
          · go_wp2_with fail
            go_quiet (fail)
            go_wp2
            go_ret3
            obtain ⟨e1, e2⟩ := cut_end Hc.out.2 Hall.out (fun b hb => by rw [getL_none _ _ hlt] at hb; cases hb)
            exact ⟨_, _, e1, e2, (by rw [Hc.out.1]; rfl), hg.drewN _⟩
      · simp only [Bool.not_eq_true] at h43 h45
        have Hc := Lib.hid (And.intro (Hn.out.trans (sgn_no h0 h43 h45).1) (Hb.out.trans ((congrArg (List.drop · r.data.toList) (sgn_no h0 h43 h45).2))))
        clear Hn Hb
        go_wp2_with fail
        go_loop [5] (fun i => ∃ k : Nat, k ≤ r.size ∧ i = .int .i64 k ∧ Hid ((r.data.toList.take k).all isDig = true)) (fun i => r.size - (intOf i).toNat)
        case atStart => exact ⟨0, Nat.zero_le _, rfl, Lib.hid (by simp)⟩
        case round =>
          obtain ⟨k, hk, rfl, Hall⟩ := hrel
          by_cases hlt : k < r.size
          · cases hd : digB (r[k].toNat : Int)
            · go_wp2_with (go_at_call 78; refine (isDigit_any _ _).mono ?_; rintro e w' ⟨rfl, rfl⟩)
              go_quiet (fail)
              go_wp2
              go_ret3
              obtain ⟨e1, e2⟩ := cut_end Hc.out.2 Hall.out (fun b hb => by rw [getL _ _ hlt] at hb; cases hb; exact (isDig_iff _).trans hd)
              exact ⟨_, _, e1, e2, (by rw [Hc.out.1]; rfl), hg.drewN _⟩
            · go_wp2_with (go_at_call 78; refine (isDigit_any _ _).mono ?_; rintro e w' ⟨rfl, rfl⟩)
              go_round
              case rel => exact ⟨k + 1, by omega, by go_num, Lib.hid (all_snoc Hall.out (getL _ _ hlt) ((isDig_iff _).trans hd))⟩
              case measure => simp [intOf]; omega
          · go_wp2_with fail
            go_quiet (fail)
            go_wp2
            go_ret3
            obtain ⟨e1, e2⟩ := cut_end Hc.out.2 Hall.out (fun b hb => by rw [getL_none _ _ hlt] at hb; cases hb)
            exact ⟨_, _, e1, e2, (by rw [Hc.out.1]; rfl), hg.drewN _⟩
  · have hne : (!r.toList.isEmpty) = false := by rw [ByteArray.toList_eq, nil_of_zero r h0]; rfl
    have Hc := Lib.hid (And.intro (Hn.out.trans (sgn_nil h0).1) (Hb.out.trans ((congrArg (List.drop · r.data.toList) (sgn_nil h0).2))))
    clear Hn Hb
    go_wp2_with fail
    go_loop [5] (fun i => ∃ k : Nat, k ≤ r.size ∧ i = .int .i64 k ∧ Hid ((r.data.toList.take k).all isDig = true)) (fun i => r.size - (intOf i).toNat)
    case atStart => exact ⟨0, Nat.zero_le _, rfl, Lib.hid (by simp)⟩
    case round =>
      obtain ⟨k, hk, rfl, Hall⟩ := hrel
      by_cases hlt : k < r.size
      · cases hd : digB (r[k].toNat : Int)
        · go_wp2_with (go_at_call 78; refine (isDigit_any _ _).mono ?_; rintro e w' ⟨rfl, rfl⟩)
          go_quiet (fail)
          go_wp2
          go_ret3
          obtain ⟨e1, e2⟩ := cut_end Hc.out.2 Hall.out (fun b hb => by rw [getL _ _ hlt] at hb; cases hb; exact (isDig_iff _).trans hd)
          exact ⟨_, _, e1, e2, (by rw [Hc.out.1]; rfl), hg.drewN _⟩
        · go_wp2_with (go_at_call 78; refine (isDigit_any _ _).mono ?_; rintro e w' ⟨rfl, rfl⟩)
          go_round
          case rel => exact ⟨k + 1, by omega, by go_num, Lib.hid (all_snoc Hall.out (getL _ _ hlt) ((isDig_iff _).trans hd))⟩
          case measure => simp [intOf]; omega
      · go_wp2_with fail
        go_quiet (fail)
        go_wp2
        go_ret3
        obtain ⟨e1, e2⟩ := cut_end Hc.out.2 Hall.out (fun b hb => by rw [getL_none _ _ hlt] at hb; cases hb)
        exact ⟨_, _, e1, e2, (by rw [Hc.out.1]; rfl), hg.drewN _⟩

end Go.Proofs.YthdchkjipafmfaaDoor
