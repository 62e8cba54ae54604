/- Which quote begins a text. -/
import Derived.Test.YtaoehbnjipegoaaDoorLBld
namespace Go.Proofs.YtaoehbnjipegoaaDoor
open Go.RowKit Go.Shelf
/-- the kind of the quote that a word, or a delimiter, begins -/
def kindL (l : List UInt8) : Option Int :=
  if l == [113] || l == [39] then some 4 else if l == [113, 113] || l == [34] then some 5 else if l == [113, 119] then some 6 else if l == [109] || l == [47] then some 7 else if l == [115] then some 8 else if l == [116, 114] then some 9 else none
def wordOr (l : List UInt8) : List UInt8 := if wordN l = 0 then l.take 1 else l.take (wordN l)
/-- the kind of the quote that begins a text, and how many bytes stand before its delimiter -/
def quoteL (l : List UInt8) : Option (Int × Nat) := match l[wordN l]? with
  | none => none
  | some c => if delimB c.toNat = true then (kindL (wordOr l)).map fun k => (k, wordN l) else none
def qkV : Option (Int × Nat) → Value
  | none => .tuple #[.int .i64 0, .int .i64 0, .bool false]
  | some (k, n) => .tuple #[.int .i64 k, .int .i64 n, .bool true]
set_option maxRecDepth 100000 in
set_option maxHeartbeats 2000000 in
theorem quoteKind_p (s : ByteArray) (hs : s.size ≤ 140737488351232) (w : World) : Calls Tryd.prog 66 #[.string s] w fun e w' => e = .returned (qkV (quoteL s.data.toList)) ∧ w = w' := by
  obtain ⟨l, hl⟩ : ∃ l, l = s.data.toList := ⟨_, rfl⟩
  have hsz : s.size = l.length := by rw [hl, ← sizeL]
  have HW := Lib.hid (fun w => word_p s hs w)
  rw [← hl] at HW ⊢
  have hle := wordN_le l
  obtain ⟨n, hn⟩ : ∃ n, n = wordN l := ⟨_, rfl⟩
  rw [← hn] at HW hle
  by_cases hlt : n < l.length
  · have hns : n < s.size := by omega
    have en : s[n] = l[n] := by subst hl; exact byteE s n hns hlt
    have HD := Lib.hid (fun w => delim_p l[n].toNat w)
    have b0 : (n : Int) < (s.size : Int) := by omega
    have b1 : ((n : Int) == (s.size : Int)) = false := by simp; omega
    by_cases hd : delimB l[n].toNat = true
    · rw [hd] at HD
      have HQ : Hid (quoteL l = (kindL (wordOr l)).map fun k => (k, n)) := Lib.hid (by unfold quoteL; rw [← hn, List.getElem?_eq_getElem hlt]; simp only; rw [if_pos hd])
      obtain ⟨t, ht⟩ : ∃ t : ByteArray, t = if n = 0 then s.extract 0 1 else s.extract 0 n := ⟨_, rfl⟩
      have htl : t.data.toList = wordOr l := by
        rw [ht]; unfold wordOr; rw [← hn]
        split
        · rw [extractE, ← hl]; simp
        · rw [extractE, ← hl]; simp
      have HK : Hid (kindL (wordOr l) = if (t.toList == [113] || t.toList == [39]) = true then some 4 else if (t.toList == [113, 113] || t.toList == [34]) = true then some 5 else if (t.toList == [113, 119]) = true then some 6 else if (t.toList == [109] || t.toList == [47]) = true then some 7 else if (t.toList == [115]) = true then some 8 else if (t.toList == [116, 114]) = true then some 9 else none) := Lib.hid (by rw [← htl, ByteArray.toList_eq]; rfl)
      generalize l[n] = x at *
      generalize quoteL l = q at *
      generalize kindL (wordOr l) = kk at *
      have bs : (1 : Int) ≤ (s.size : Int) := by omega
      by_cases h0 : n = 0
      · subst h0
        have Ht : Hid (s.extract 0 1 = t) := Lib.hid (by rw [ht]; rfl)
        clear hn hle hl hsz hd ht htl hlt
        go_enter Tryd.func66, Tryd.ntmps66
        go_wp2_with fail
        refine (HW.out _).mono ?_
        rintro e w1 ⟨rfl, rfl⟩
        go_wp2_with fail
        refine (HD.out _).mono ?_
        rintro e w1 ⟨rfl, rfl⟩
        have ht' := Ht.out
        go_wp2_with fail
        all_goals
          go_ret3
          refine ⟨?_, rfl⟩
          rw [HQ.out, HK.out]
          first
            | (simp [*, qkV]; done)
            | simp_all
      · have Ht : Hid (s.extract 0 n = t) := Lib.hid (by rw [ht, if_neg h0])
        have n0 : ((n : Int) == 0) = false := by simp; omega
        have n1 : (n : Int) ≤ (s.size : Int) := by omega
        clear hn hle hl hsz hd ht htl hlt h0
        go_enter Tryd.func66, Tryd.ntmps66
        go_wp2_with fail
        refine (HW.out _).mono ?_
        rintro e w1 ⟨rfl, rfl⟩
        go_wp2_with fail
        refine (HD.out _).mono ?_
        rintro e w1 ⟨rfl, rfl⟩
        have ht' := Ht.out
        go_wp2_with fail
        all_goals
          go_ret3
          refine ⟨?_, rfl⟩
          rw [HQ.out, HK.out]
          first
            | (simp [*, qkV]; done)
            | simp_all
    · rw [show delimB l[n].toNat = false by simpa using hd] at HD
      have HQ : Hid (quoteL l = none) := Lib.hid (by unfold quoteL; rw [← hn, List.getElem?_eq_getElem hlt]; simp only; rw [if_neg hd])
      generalize l[n] = x at *
      generalize quoteL l = q at *
      clear hn hle hl hsz hd hlt
      go_enter Tryd.func66, Tryd.ntmps66
      go_wp2_with fail
      refine (HW.out _).mono ?_
      rintro e w1 ⟨rfl, rfl⟩
      go_wp2_with fail
      refine (HD.out _).mono ?_
      rintro e w1 ⟨rfl, rfl⟩
      go_wp2_with fail
      go_ret3
      exact ⟨by rw [HQ.out]; rfl, rfl⟩
  · have hnl : n = s.size := by omega
    have HQ : Hid (quoteL l = none) := Lib.hid (by unfold quoteL; rw [← hn, List.getElem?_eq_none (by omega)])
    generalize quoteL l = q at *
    have n0 : ((n : Int) == (s.size : Int)) = true := by simp; omega
    clear hn hle hl hsz hlt hnl
    go_enter Tryd.func66, Tryd.ntmps66
    go_wp2_with fail
    refine (HW.out _).mono ?_
    rintro e w1 ⟨rfl, rfl⟩
    go_wp2_with fail
    go_ret3
    exact ⟨by rw [HQ.out]; rfl, rfl⟩
end Go.Proofs.YtaoehbnjipegoaaDoor
