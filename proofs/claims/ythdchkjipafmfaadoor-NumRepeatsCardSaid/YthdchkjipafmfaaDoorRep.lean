/- Repeating texts: both sides' Repeat; the walk of NumRepeats. -/
import Derived.Test.YthdchkjipafmfaaDoorShelfR
import Derived.Test.YthdchkjipafmfaaDoorKnown
import Derived.Test.YthdchkjipafmfaaDoorRef
namespace Go.Proofs.YthdchkjipafmfaaDoor
open Go.RowKit Go.Shelf

theorem repExtra : Builder.Extra Tryd.prog Tryd.lays105_ren :=
  { sizeBuilder := by kernel_rfl, liesBuilder := by kernel_rfl, t5 := Tryd.underlying5, a5 := Tryd.isAgg5, z5 := Tryd.sizeOf5, v5 := Tryd.zeroValue5,
    infoByte := by kernel_rfl, cellsByte := by kernel_rfl, sizeByte := by kernel_rfl, neB5 := by decide }
def StrPost (l : List UInt8) (x : Int) (w : World) (e : Ending) (w' : World) : Prop := ∃ r : ByteArray, r.data.toList = l ∧ e = .returned (.tuple #[.string r, .int .i64 x]) ∧ Gr w w'
theorem repeatL_succ (l : List UInt8) (k : Nat) : Lib.repeatL l (k + 1) = Lib.repeatL l k ++ l := by
  induction k with
  | zero => simp [Lib.repeatL]
  | succ k ih =>
    show l ++ Lib.repeatL l (k + 1) = (l ++ Lib.repeatL l k) ++ l
    rw [ih, List.append_assoc]
theorem libRepeat_any (s : ByteArray) (c : Nat) (hc : c ≤ 4096) (hs : s.size ≤ 4096) (w : World) : Calls Tryd.prog 67 #[.string s, .int .i64 (c : Int)] w fun e w' => ∃ r : ByteArray, r.data.toList = Lib.repeatL s.data.toList c ∧ e = .returned (.string r) ∧ Gr w w' := by
  have h := Any.strings_Repeat Tryd.lays105 repExtra s c w (by omega) (by
    have : s.size * c ≤ 4096 * 4096 := Nat.mul_le_mul hs hc
    omega)
  change Calls Tryd.prog 67 _ _ _ at h
  exact h.mono fun e w' ⟨he, hb⟩ => ⟨_, by simp, he, hb⟩

/-- what Repeat gives -/
def repL (l : List UInt8) (n : Int) : List UInt8 := if 4096 < l.length ∨ n < 1 ∨ l.length = 0 ∨ ((4096 / l.length : Nat) : Int) < n then [] else Lib.repeatL l n.toNat
def repE (l : List UInt8) (n : Int) : Int := if 4096 < l.length then 3 else if n < 1 ∨ l.length = 0 then 0 else if ((4096 / l.length : Nat) : Int) < n then 3 else 0
theorem rep_cases (s : ByteArray) (n : Int) :
    (4096 < s.size ∧ repL s.data.toList n = [] ∧ repE s.data.toList n = 3) ∨
    (s.size ≤ 4096 ∧ (n < 1 ∨ s.size = 0) ∧ repL s.data.toList n = [] ∧ repE s.data.toList n = 0) ∨
    (s.size ≤ 4096 ∧ 1 ≤ n ∧ 1 ≤ s.size ∧ (4096 : Int) / (s.size : Int) < n ∧ repL s.data.toList n = [] ∧ repE s.data.toList n = 3) ∨
    (s.size ≤ 4096 ∧ 1 ≤ n ∧ 1 ≤ s.size ∧ n ≤ (4096 : Int) / (s.size : Int) ∧ n ≤ 4096 ∧ n.toNat * s.size ≤ 4096 ∧ repL s.data.toList n = Lib.repeatL s.data.toList n.toNat ∧ repE s.data.toList n = 0) := by
  have hc : ((4096 / s.size : Nat) : Int) = (4096 : Int) / (s.size : Int) := by simp
  unfold repL repE
  rw [sizeL]
  by_cases h1 : 4096 < s.size
  · exact .inl ⟨h1, by rw [if_pos (.inl h1)], by rw [if_pos h1]⟩
  refine .inr ?_
  by_cases h2 : n < 1 ∨ s.size = 0
  · exact .inl ⟨by omega, h2, by rw [if_pos (by omega)], by rw [if_neg h1, if_pos h2]⟩
  refine .inr ?_
  by_cases h3 : ((4096 / s.size : Nat) : Int) < n
  · exact .inl ⟨by omega, by omega, by omega, by rw [← hc]; exact h3, by rw [if_pos (.inr (.inr (.inr h3)))], by rw [if_neg h1, if_neg h2, if_pos h3]⟩
  · refine .inr ⟨by omega, by omega, by omega, by rw [← hc]; omega, ?_, ?_, by rw [if_neg (by omega)], by rw [if_neg h1, if_neg h2, if_neg h3]⟩
    · have := Nat.div_le_self 4096 s.size; omega
    · have h4 : n.toNat ≤ 4096 / s.size := by omega
      exact Nat.le_trans (Nat.mul_le_mul_right _ h4) (Nat.div_mul_le_self _ _)
theorem repeat_any (s : ByteArray) (n : Int) (hn : n ≤ 9223372036854775807) (w : World) (hs : s.size ≤ 140737488351232) : Calls Tryd.prog 40 #[.string s, .int .i64 n] w (StrPost (repL s.data.toList n) (repE s.data.toList n) w) := by
  have hc := rep_cases s n
  have hR := Lib.hid (fun c hc hs w => libRepeat_any s c hc hs w)
  generalize repL s.data.toList n = L at *
  generalize repE s.data.toList n = E at *
  rcases hc with ⟨h1, hL, rfl⟩ | ⟨h1, h2, hL, rfl⟩ | ⟨h1, h2, h3, h4, hL, rfl⟩ | ⟨h1, h2, h3, h4, h5, h6, hL, rfl⟩
  · have HL := Lib.hid hL
    clear hL
    go_enter Tryd.func40, Tryd.ntmps40
    go_wp2
    go_ret2
    exact ⟨_, HL.out.symm, rfl, Gr.refl w⟩
  · have HL := Lib.hid hL
    clear hL
    by_cases hz : 0 < s.size
    · have hne := ne_of_pos s hz
      have hn1 : n < 1 := by omega
      clear h2
      go_enter Tryd.func40, Tryd.ntmps40
      go_wp2
      go_ret2
      exact ⟨_, HL.out.symm, rfl, Gr.refl w⟩
    · have hne : (!s.toList.isEmpty) = false := by rw [ByteArray.toList_eq, nil_of_zero s hz]; rfl
      have hne' : s.toList.isEmpty = true := by rw [ByteArray.toList_eq, nil_of_zero s hz]; rfl
      clear h2
      go_enter Tryd.func40, Tryd.ntmps40
      go_wp2
      go_ret2
      exact ⟨_, HL.out.symm, rfl, Gr.refl w⟩
  · have HL := Lib.hid hL
    clear hL
    have hne := ne_of_pos s (by omega)
    have hne' : s.toList.isEmpty = false := by simpa using hne
    go_enter Tryd.func40, Tryd.ntmps40
    go_wp2
    go_ret2
    exact ⟨_, HL.out.symm, rfl, Gr.refl w⟩
  · have HL := Lib.hid hL
    have hne := ne_of_pos s (by omega)
    have hne' : s.toList.isEmpty = false := by simpa using hne
    obtain ⟨c, rfl⟩ : ∃ c : Nat, n = (c : Int) := ⟨n.toNat, by omega⟩
    clear hL h6
    go_enter Tryd.func40, Tryd.ntmps40
    go_wp2_with fail
    refine (hR.out c (by omega) h1 w).mono ?_
    rintro e w1 ⟨r, hr, rfl, hg⟩
    have Hr := Lib.hid hr
    clear hr
    go_wp2
    go_ret2
    exact ⟨r, by rw [HL.out, Hr.out]; rfl, rfl, hg⟩
theorem app_data' (a b : ByteArray) : (a ++ b).data.toList = a.data.toList ++ b.data.toList := by simp
theorem refRepeat_any (s : ByteArray) (n : Int) (hn : n ≤ 9223372036854775807) (w : World) (hs : s.size ≤ 140737488351232) : Calls Tryd.prog 39 #[.string s, .int .i64 n] w (StrPost (repL s.data.toList n) (repE s.data.toList n) w) := by
  have hc := rep_cases s n
  generalize repL s.data.toList n = L at *
  generalize repE s.data.toList n = E at *
  rcases hc with ⟨h1, hL, rfl⟩ | ⟨h1, h2, hL, rfl⟩ | ⟨h1, h2, h3, h4, hL, rfl⟩ | ⟨h1, h2, h3, h4, h5, h6, hL, rfl⟩
  · have HL := Lib.hid hL
    clear hL
    go_enter Tryd.func39, Tryd.ntmps39
    go_wp2
    go_ret2
    exact ⟨_, HL.out.symm, rfl, Gr.refl w⟩
  · have HL := Lib.hid hL
    clear hL
    by_cases hz : n < 1
    · clear h2
      go_enter Tryd.func39, Tryd.ntmps39
      go_wp2
      go_ret2
      exact ⟨_, HL.out.symm, rfl, Gr.refl w⟩
    · have hz' : s.size = 0 := by omega
      have hne' : s.toList.isEmpty = true := by rw [ByteArray.toList_eq, nil_of_zero s (by omega)]; rfl
      clear h2 hz'
      go_enter Tryd.func39, Tryd.ntmps39
      go_wp2
      go_ret2
      exact ⟨_, HL.out.symm, rfl, Gr.refl w⟩
  · have HL := Lib.hid hL
    clear hL
    have hne := ne_of_pos s (by omega)
    have hne' : s.toList.isEmpty = false := by simpa using hne
    go_enter Tryd.func39, Tryd.ntmps39
    go_wp2
    go_ret2
    exact ⟨_, HL.out.symm, rfl, Gr.refl w⟩
  · have hne := ne_of_pos s (by omega)
    have hne' : s.toList.isEmpty = false := by simpa using hne
    obtain ⟨c, rfl⟩ : ∃ c : Nat, n = (c : Int) := ⟨n.toNat, by omega⟩
    rw [Int.toNat_natCast] at h6 hL
    have HL := Lib.hid hL
    have H6 := Lib.hid h6
    clear hL h6
    go_enter Tryd.func39, Tryd.ntmps39
    go_wp2_with fail
    go_loop [6, 7] (fun o i => ∃ k : Nat, k ≤ c ∧ i = .int .i64 k ∧ ∃ r : ByteArray, r.size ≤ 4096 ∧ o = .string r ∧ Hid (r.data.toList = Lib.repeatL s.data.toList k ∧ r.size = k * s.size)) (fun _ i => c - (intOf i).toNat)
    case atStart => exact ⟨0, Nat.zero_le _, rfl, ⟨#[]⟩, Nat.zero_le _, rfl, Lib.hid ⟨rfl, (Nat.zero_mul _).symm⟩⟩
    case round =>
      obtain ⟨k, hk, rfl, r, hr, rfl, Hr⟩ := hrel
      by_cases hlt : k < c
      · have hsz : Hid ((r ++ s).size = (k + 1) * s.size) := Lib.hid (by
          rw [ByteArray.size_append, Hr.out.2, Nat.add_mul, Nat.one_mul])
        have hle : Hid ((r ++ s).size ≤ 4096) := Lib.hid (by
          rw [hsz.out]; exact Nat.le_trans (Nat.mul_le_mul_right _ (by omega)) H6.out)
        have hd : Hid ((r ++ s).data.toList = Lib.repeatL s.data.toList (k + 1)) := Lib.hid (by rw [app_data', Hr.out.1, repeatL_succ])
        go_wp2
        go_round
        case rel => exact ⟨k + 1, by omega, by go_num, r ++ s, hle.out, rfl, Lib.hid ⟨hd.out, hsz.out⟩⟩
        case measure => simp [intOf]; omega
      · obtain rfl : k = c := by omega
        go_wp2
        go_ret2
        exact ⟨r, by rw [HL.out, Hr.out.1], rfl, Gr.refl w⟩
theorem law_repeats (s : ByteArray) (n : Int) (hs : s.size ≤ 140737488351232) (hn : -9223372036854775808 ≤ n ∧ n ≤ 9223372036854775807) (w : World) :
    Calls Tryd.prog 11 #[.string s, .int .i64 n] w fun e w' => e = .returned (.bool true) ∧ Gr w w' := by
  by_cases hl : 16384 < s.size
  · go_enter Tryd.func11, Tryd.ntmps11
    go_wp2_with (first | (go_at_call 15; refine (long_any _ _ (by omega)).mono ?_; rintro e w' ⟨rfl, rfl⟩) | (go_at_call 16; refine (known_any _).mono ?_; rintro e w' ⟨rfl, hg⟩))
    go_ret
    exact ⟨rfl, hg⟩
  · have H1 := Lib.hid (fun w => refRepeat_any s n hn.2 w hs)
    have H2 := Lib.hid (fun w => repeat_any s n hn.2 w hs)
    generalize repE s.data.toList n = E at *
    clear hn
    go_enter Tryd.func11, Tryd.ntmps11
    go_wp2_with (first | (go_at_call 15; refine (long_any _ _ (by omega)).mono ?_; rintro e w' ⟨rfl, rfl⟩))
    refine (H1.out _).mono ?_
    rintro e w1 ⟨r1, hr1, rfl, g1⟩
    have Hr1 := Lib.hid hr1
    clear hr1
    go_wp2_with fail
    refine (H2.out _).mono ?_
    rintro e w2 ⟨r2, hr2, rfl, g2⟩
    have heq : (r2.toList == r1.toList) = true := by rw [ByteArray.toList_eq, ByteArray.toList_eq, Hr1.out, hr2]; simp
    clear hr2
    go_wp2_with fail
    refine (known_any _).mono ?_
    rintro e w3 ⟨rfl, g3⟩
    go_wp2
    go_ret
    exact ⟨rfl, (g1.trans g2).trans g3⟩
end Go.Proofs.YthdchkjipafmfaaDoor
