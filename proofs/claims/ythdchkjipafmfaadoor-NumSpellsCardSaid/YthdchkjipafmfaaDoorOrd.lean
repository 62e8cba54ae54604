/- Comparing texts: contracts and the walk of NumOrders. -/
import Derived.Test.YthdchkjipafmfaaDoorCmp
import Derived.Test.YthdchkjipafmfaaDoorCut
namespace Go.Proofs.YthdchkjipafmfaaDoor
open Go.RowKit Go.Shelf

theorem quiet_add {P : Program} {f : FuncId} {args : Array Value} {w : World} {a n : Nat} {v : Value}
    (h : Calls P f args (w.drewN (a + n)) fun e w' => e = .returned v ∧ w.drewN (a + n) = w') :
    Calls P f args (w.drewN (a + n)) fun e w'' => e = .returned v ∧ ∃ m, w'' = w.drewN (a + m) :=
  h.mono fun _ _ ⟨he, hm⟩ => ⟨he, n, hm.symm⟩
theorem quiet_at {P : Program} {f : FuncId} {args : Array Value} {w : World} {n : Nat} {v : Value}
    (h : Calls P f args (w.drewN n) fun e w' => e = .returned v ∧ w.drewN n = w') : Calls P f args (w.drewN n) fun e w'' => e = .returned v ∧ ∃ m, w'' = w.drewN m :=
  h.mono fun _ _ ⟨he, hm⟩ => ⟨he, n, hm.symm⟩

theorem compareText_any (s t : ByteArray) (c : Int) (hc : Lib.compareBytes s.data.toList t.data.toList = c) (w : World) : Calls Tryd.prog 32 #[.string s, .string t] w fun e w' => e = .returned (.int .i64 c) ∧ w = w' := by
  have h := (Any.strings_Compare Tryd.lays106 s t w)
  change Calls Tryd.prog 64 _ _ _ at h
  rw [hc] at h
  have H := Lib.hid h
  clear h hc
  go_enter Tryd.func32, Tryd.ntmps32
  go_wp2_with fail
  refine H.out.mono ?_
  rintro e w' ⟨rfl, rfl⟩
  go_wp2
  go_ret
  exact ⟨rfl, rfl⟩

theorem drop_at (s : ByteArray) (k : Nat) (h : k < s.size) : s.data.toList.drop k = s[k] :: s.data.toList.drop (k + 1) := by
  rw [List.drop_eq_getElem_cons (by simpa using h)]; rfl
theorem cmpB_eq {s t : ByteArray} {k : Nat} (hs : k < s.size) (ht : k < t.size) (h : ((s[k].toNat : Int) != (t[k].toNat : Int)) = false) :
    Lib.compareBytes (s.data.toList.drop k) (t.data.toList.drop k) = Lib.compareBytes (s.data.toList.drop (k + 1)) (t.data.toList.drop (k + 1)) := by
  have e : s[k] = t[k] := by
    apply UInt8.toNat_inj.1
    simp at h; omega
  rw [drop_at s k hs, drop_at t k ht, Lib.compareBytes, e, if_neg (UInt8.lt_irrefl _), if_neg (UInt8.lt_irrefl _)]
theorem cmpB_ne {s t : ByteArray} {k : Nat} (hs : k < s.size) (ht : k < t.size) (h : ((s[k].toNat : Int) != (t[k].toNat : Int)) = true) :
    Lib.compareInt (s[k].toNat : Int) (t[k].toNat : Int) = Lib.compareBytes (s.data.toList.drop k) (t.data.toList.drop k) := by
  simp at h
  rw [drop_at s k hs, drop_at t k ht, Lib.compareBytes, cmp_val]
  by_cases h1 : s[k] < t[k]
  · rw [if_pos h1, if_pos (by have := UInt8.lt_iff_toNat_lt.1 h1; omega)]
  · rw [if_neg h1, if_neg (by intro hh; exact h1 (UInt8.lt_iff_toNat_lt.2 (by omega)))]
    have h2 : t[k] < s[k] := UInt8.lt_iff_toNat_lt.2 (by have : ¬ s[k].toNat < t[k].toNat := fun hh => h1 (UInt8.lt_iff_toNat_lt.2 hh); omega)
    rw [if_pos h2, if_pos (by have := UInt8.lt_iff_toNat_lt.1 h2; omega)]
theorem nil_at (s : ByteArray) (k : Nat) (h : s.size ≤ k) : s.data.toList.drop k = [] :=
  List.drop_eq_nil_of_le (by rw [show s.data.toList.length = s.size from by simp]; exact h)
theorem cmpB_end {s t : ByteArray} {k : Nat} (hk : k ≤ s.size) (hk' : k ≤ t.size) (h : ¬ (k < s.size ∧ k < t.size)) :
    Lib.compareInt (s.size : Int) (t.size : Int) = Lib.compareBytes (s.data.toList.drop k) (t.data.toList.drop k) := by
  rw [cmp_val]
  by_cases h1 : k < s.size
  · rw [drop_at s k h1, nil_at t k (by omega), Lib.compareBytes, if_neg (by omega), if_pos (by omega)]
  · rw [nil_at s k (by omega)]
    by_cases h2 : k < t.size
    · rw [drop_at t k h2, Lib.compareBytes, if_pos (by omega)]
    · rw [nil_at t k (by omega), Lib.compareBytes, if_neg (by omega), if_neg (by omega)]

set_option maxHeartbeats 400000 in
theorem refCompareText_any (s t : ByteArray) (w : World) (hs : s.size ≤ 140737488351232) (_ht : t.size ≤ 140737488351232) : Calls Tryd.prog 33 #[.string s, .string t] w fun e w' => e = .returned (.int .i64 (Lib.compareBytes s.data.toList t.data.toList)) ∧ Gr w w' := by
  go_enter Tryd.func33, Tryd.ntmps33
  go_wp2_with fail
  go_loopw [5] (fun i wr => ∃ k : Nat, k ≤ s.size ∧ k ≤ t.size ∧ i = .int .i64 k ∧ Hid (Lib.compareBytes (s.data.toList.drop k) (t.data.toList.drop k) = Lib.compareBytes s.data.toList t.data.toList) ∧ Gr w wr) (fun i _ => s.size - (intOf i).toNat)
  case atStart => exact ⟨0, Nat.zero_le _, Nat.zero_le _, rfl, Lib.hid rfl, Gr.refl w⟩
  case round =>
    obtain ⟨k, hk, hk', rfl, Hk, hg⟩ := hrel
    by_cases h1 : k < s.size
    · by_cases h2 : k < t.size
      · cases hne : ((s[k].toNat : Int) != (t[k].toNat : Int))
        · go_wp2_with fail
          go_quiet (fail)
          go_wp2
          go_roundw
          case rel => exact ⟨k + 1, by omega, by omega, by go_num, Lib.hid ((cmpB_eq h1 h2 hne).symm.trans Hk.out), hg.drewN _⟩
          case measure => simp [intOf]; omega
        · have b1 : (s[k].toNat : Int) < 256 := by have := s[k].toNat_lt; omega
          have b2 : (t[k].toNat : Int) < 256 := by have := t[k].toNat_lt; omega
          go_wp2_with fail
          go_quiet (fail)
          go_wp2_with fail
          go_quiet ((go_at_call 31; exact quiet_add (refCompare_any _ _ _ (cmpB_ne h1 h2 hne) _)))
          go_wp2
          go_ret
          exact ⟨by rw [← Hk.out]; rfl, (hg.drewN _).drewN _⟩
      · have he := cmpB_end hk hk' (by omega)
        have He := Lib.hid he
        clear he
        go_wp2_with (go_at_call 31; refine (refCompare_any _ _ _ (He.out.trans Hk.out) _).mono ?_; rintro e w' ⟨rfl, rfl⟩)
        go_ret
        exact ⟨rfl, hg⟩
    · have he := cmpB_end hk hk' (by omega)
      have He := Lib.hid he
      clear he
      go_wp2_with (go_at_call 31; refine (refCompare_any _ _ _ (He.out.trans Hk.out) _).mono ?_; rintro e w' ⟨rfl, rfl⟩)
      go_ret
      exact ⟨rfl, hg⟩
theorem cmpB_opp : ∀ (l m : List UInt8), ∃ c, Lib.compareBytes l m = c ∧ Lib.compareBytes m l = -c ∧ (c = -1 ∨ c = 0 ∨ c = 1)
  | [], [] => ⟨0, by simp [Lib.compareBytes]⟩
  | [], _ :: _ => ⟨-1, by simp [Lib.compareBytes]⟩
  | _ :: _, [] => ⟨1, by simp [Lib.compareBytes]⟩
  | a :: l, b :: m => by
    simp only [Lib.compareBytes]
    by_cases h1 : a < b
    · exact ⟨-1, by rw [if_pos h1], by rw [if_neg (UInt8.lt_asymm h1), if_pos h1]; rfl, .inl rfl⟩
    · by_cases h2 : b < a
      · exact ⟨1, by rw [if_neg h1, if_pos h2], by rw [if_pos h2], .inr (.inr rfl)⟩
      · rw [if_neg h1, if_neg h2, if_neg h2, if_neg h1]
        exact cmpB_opp l m
theorem law_orders (s t : ByteArray) (hs : s.size ≤ 140737488351232) (ht : t.size ≤ 140737488351232) (w : World) :
    Calls Tryd.prog 8 #[.string s, .string t] w fun e w' => e = .returned (.bool true) ∧ Gr w w' := by
  by_cases hl : 16384 < s.size
  · go_enter Tryd.func8, Tryd.ntmps8
    go_wp2_with (first | (go_at_call 15; refine (long_any _ _ (by omega)).mono ?_; rintro e w' ⟨rfl, rfl⟩) | (go_at_call 16; refine (known_any _).mono ?_; rintro e w' ⟨rfl, hg⟩))
    go_ret
    exact ⟨rfl, hg⟩
  · by_cases hm : 16384 < t.size
    · go_enter Tryd.func8, Tryd.ntmps8
      go_wp2_with (first | (go_at_call 15; refine (long_any _ _ (by omega)).mono ?_; rintro e w' ⟨rfl, rfl⟩) | (go_at_call 16; refine (known_any _).mono ?_; rintro e w' ⟨rfl, hg⟩))
      go_ret
      exact ⟨rfl, hg⟩
    · obtain ⟨c, h1, h2, h3⟩ := cmpB_opp s.data.toList t.data.toList
      have H1 := Lib.hid h1
      have H2 := Lib.hid h2
      clear h1 h2
      rcases h3 with rfl | rfl | rfl
      all_goals
        go_enter Tryd.func8, Tryd.ntmps8
        go_wp2_with (first | (go_at_call 15; refine (long_any _ _ (by omega)).mono ?_; rintro e w' ⟨rfl, rfl⟩))
        refine (compareText_any _ _ _ H1.out _).mono ?_
        rintro e w' ⟨rfl, rfl⟩
        go_wp2_with fail
        refine (refCompareText_any _ _ _ hs ht).mono ?_
        rw [H1.out]
        rintro e w1 ⟨rfl, hg1⟩
        go_wp2_with fail
        refine (compareText_any _ _ _ H2.out _).mono ?_
        rintro e w' ⟨rfl, rfl⟩
        go_wp2_with fail
        refine (compareText_any _ _ _ H1.out _).mono ?_
        rintro e w' ⟨rfl, rfl⟩
        go_wp2_with fail
        refine (known_any _).mono ?_
        rintro e w' ⟨rfl, hg⟩
        go_wp2
        go_ret
        exact ⟨rfl, hg1.trans hg⟩
end Go.Proofs.YthdchkjipafmfaaDoor
