/- Quote: the reference's answer is the program's. -/
import Derived.Test.YtaoehbnjipegoaaDoorLQuoteR
namespace Go.Proofs.YtaoehbnjipegoaaDoor
open Go.RowKit Go.Shelf
set_option maxRecDepth 100000 in
set_option maxHeartbeats 1000000 in
theorem Quote_r (s : ByteArray) (hs : s.size ≤ 140737488351232) (w : World) :
    Calls Tryd.prog 13 #[.string s] w fun e w' => e = .returned (quoteV s.data.toList) ∧ Gr w w' := by
  by_cases h1 : 4096 < s.size
  · have E : quoteV s.data.toList = .tuple #[.string ⟨#[]⟩, .int .i64 3] := by unfold quoteV; rw [sizeL, if_pos h1]
    have t1 : (4096 : Int) < (s.size : Int) := by omega
    rw [E]; clear E h1
    go_enter Tryd.func13, Tryd.ntmps13
    go_wp2
    go_ret2
    exact ⟨rfl, Gr.refl w⟩
  · have t1 : decide ((4096 : Int) < (s.size : Int)) = false := by simp; omega
    obtain ⟨l, hl⟩ : ∃ l, l = s.data.toList := ⟨_, rfl⟩
    have hsz : s.size = l.length := by rw [hl, ← sizeL]
    have HB := Lib.hid (fun n (h : n < s.size) (h' : n < l.length) => (show s[n] = l[n] by subst hl; exact byteE s n h h'))
    have HI := Lib.hid (fun x w => isByte_r x w)
    have HE := Lib.hid (fun w => escaped_r s (by omega) w)
    have hz := escL_len s.data.toList
    rw [sizeL] at hz
    have hq : Hid ((⟨#[39]⟩ : ByteArray) ++ ⟨(escL s.data.toList).toArray⟩ ++ ⟨#[39]⟩ = qtB s.data.toList) := Lib.hid (baE (by simp [qtB, ByteArray.data_append]))
    have hz2 : (⟨(escL s.data.toList).toArray⟩ : ByteArray).size ≤ 2000000 := by
      have : (⟨(escL s.data.toList).toArray⟩ : ByteArray).size = (escL s.data.toList).length := by simp [ByteArray.size]
      omega
    have HV : Hid (quoteV s.data.toList = if forL l < l.length then .tuple #[.string ⟨#[]⟩, .int .i64 1] else .tuple #[.string (qtB s.data.toList), .int .i64 0]) := Lib.hid (by unfold quoteV; rw [if_neg (by rw [sizeL]; exact h1), hl])
    generalize (⟨(escL s.data.toList).toArray⟩ : ByteArray) = q at *
    generalize qtB s.data.toList = qq at *
    generalize quoteV s.data.toList = V at *
    have hzi : (q.size : Int) ≤ 2000000 := by omega
    have Hsz := Lib.hid hsz
    clear hz hl hsz h1
    go_enter Tryd.func13, Tryd.ntmps13
    go_wp2_with fail
    clear t1
    go_loopw [4] (fun iv wr => ∃ i : Nat, iv = .int .i64 (i : Int) ∧ i ≤ s.size ∧ Gr w wr ∧ Hid (∀ n (_ : n < i) (h : n < l.length), ownB (l[n].toNat : Int) = true)) (fun iv _ => leftTo s.size iv)
    case atStart => exact ⟨0, rfl, Nat.zero_le _, Gr.refl w, Lib.hid (fun n h => absurd h (Nat.not_lt_zero _))⟩
    case round =>
      obtain ⟨i, rfl, hi, hg, hA⟩ := hrel
      have Hg := Lib.hid hg
      clear hg
      by_cases hc : i < s.size
      · have hci : (i : Int) < (s.size : Int) := by omega
        have hL : i < l.length := by rw [← Hsz.out]; exact hc
        have ex := HB.out i hc hL
        have hi1 : (i : Int) + 1 ≤ 9223372036854775807 := by omega
        have hi2 : -9223372036854775808 ≤ (i : Int) + 1 := by omega
        have hI := Lib.hid (fun w => HI.out (l[i].toNat : Int) w)
        have HN : Hid (ownB (l[i].toNat : Int) = true → ∀ n (_ : n < i + 1) (h : n < l.length), ownB (l[n].toNat : Int) = true) := Lib.hid (fun h n h1 h2 => by
          by_cases h3 : n = i
          · subst h3; exact h
          · exact hA.out n (by omega) h2)
        have HF : Hid (ownB (l[i].toNat : Int) = false → V = .tuple #[.string ⟨#[]⟩, .int .i64 1]) := Lib.hid (fun h => by rw [HV.out, forL_at hL hA.out h, if_pos hL])
        generalize ownB (l[i].toNat : Int) = b at *
        generalize l[i] = x at *
        clear HB HI hL HV hq
        cases b
        · have E := Lib.hid (HF.out rfl)
          clear HN HF hi1 hi2
          go_wp2_with fail
          refine (hI.out _).mono ?_
          rintro e w2 ⟨rfl, rfl⟩
          go_wp2
          go_ret2
          rw [E.out]
          exact ⟨rfl, Hg.out⟩
        · have HM := Lib.hid (HN.out rfl)
          clear HN HF
          go_wp2_with fail
          refine (hI.out _).mono ?_
          rintro e w2 ⟨rfl, rfl⟩
          go_wp2
          go_roundw
          case rel => exact ⟨i + 1, rfl, hc, Hg.out, HM⟩
          case measure => simp only [leftTo]; omega
      · have hci : decide ((i : Int) < (s.size : Int)) = false := by simp; omega
        have hci' : decide (i < s.size) = false := by simp; omega
        have E : Hid (V = .tuple #[.string qq, .int .i64 0]) := Lib.hid (by rw [HV.out, forL_end (fun n h => hA.out n (by have := Hsz.out; omega) h), if_neg (Nat.lt_irrefl _)])
        clear HB HI HV hc
        go_wp2_with fail
        refine (HE.out _).mono ?_
        rintro e w2 ⟨rfl, g⟩
        go_wp2
        go_ret2
        rw [E.out, ← hq.out]
        exact ⟨rfl, Hg.out.trans g⟩
end Go.Proofs.YtaoehbnjipegoaaDoor
