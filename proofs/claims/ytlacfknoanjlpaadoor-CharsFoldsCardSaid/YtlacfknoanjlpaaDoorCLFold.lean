/- SameFold, of the program and of the reference; the law. -/
import Derived.Test.YtlacfknoanjlpaaDoorCKnow
import Derived.Test.YtlacfknoanjlpaaDoorCRFrm
namespace Go.Proofs.YtlacfknoanjlpaaDoor
open Go.RowKit Go.Shelf
def sfT (l m : List UInt8) : Bool × Int := if chk2 l m = 0 then (decide ((runesL l).flatMap foldC = (runesL m).flatMap foldC), 0) else (false, chk2 l m)
theorem sfT_no {l m : List UInt8} (h : ¬ chk2 l m = 0) : sfT l m = (false, chk2 l m) := if_neg h
theorem sfT_ok {l m : List UInt8} (h : chk2 l m = 0) : sfT l m = (decide ((runesL l).flatMap foldC = (runesL m).flatMap foldC), 0) := if_pos h
theorem chk2_zero {l m : List UInt8} (h : chk2 l m = 0) : chkE l = 0 ∧ chkE m = 0 := by
  unfold chk2 at h
  by_cases h1 : chkE l = 0
  · rw [if_pos h1] at h; exact ⟨h1, h⟩
  · rw [if_neg h1] at h; exact absurd h h1
theorem chk2_ok {l m : List UInt8} (h1 : chkE l = 0) (h2 : chkE m = 0) : chk2 l m = 0 := by unfold chk2; rw [if_pos h1, h2]
theorem writeL_inj {a b : List Int} (ha : a.all isCh = true) (hb : b.all isCh = true) (h : writeL a = writeL b) : a = b := by
  have := congrArg runesL h
  rw [(runes_write a ha).1, (runes_write b hb).1] at this; exact this
theorem beq_write {a b : List Int} (ha : a.all isCh = true) (hb : b.all isCh = true) : (writeL a == writeL b) = decide (a = b) := by
  by_cases h : a = b
  · subst h; simp
  · rw [decide_eq_false h]
    cases hq : (writeL a == writeL b)
    · rfl
    · exact absurd (writeL_inj ha hb (eq_of_beq hq)) h
abbrev BoolQ (a : Bool × Int) (w : World) (e : Ending) (w' : World) : Prop := e = .returned (.tuple #[.bool a.1, .int .i64 a.2]) ∧ Gr w w'
set_option maxRecDepth 100000 in
set_option maxHeartbeats 1000000 in
theorem sameFold_p (s t : ByteArray) (w : World) : Calls Tryd.prog 32 #[.string s, .string t] w (BoolQ (sfT s.data.toList t.data.toList) w) := by
  have HC := Lib.hid (check2 s t w _ 9 (0, 0) rfl)
  by_cases h : chk2 s.data.toList t.data.toList = 0
  · obtain ⟨hs, ht⟩ := chk2_zero h
    obtain ⟨s1, s2⟩ := chkE_zero hs
    obtain ⟨t1, t2⟩ := chkE_zero ht
    rw [sizeL] at s1 t1
    have HS := Lib.hid (fun w => folds_p s s1 s2 w)
    have HT := Lib.hid (fun w => folds_p t t1 t2 w)
    have HE := Lib.hid (sfT_ok h)
    have hq := beq_write (all_flat (fun c h => fold_ch h) (runes_ch s.data.toList)) (all_flat (fun c h => fold_ch h) (runes_ch t.data.toList))
    rw [h] at HC
    rw [← hq] at HE
    clear h hs ht s1 s2 t1 t2 hq
    generalize writeL ((runesL s.data.toList).flatMap foldC) = X at *
    generalize writeL ((runesL t.data.toList).flatMap foldC) = Y at *
    go_enter Tryd.func32, Tryd.ntmps32
    go_wp2_with fail
    refine HC.out.mono ?_
    rintro e w1 ⟨rfl, g1⟩
    go_wp2_with fail
    refine (HS.out _).mono ?_
    rintro e w2 ⟨rfl, g2⟩
    go_wp2_with fail
    refine (HT.out _).mono ?_
    rintro e w3 ⟨rfl, g3⟩
    go_wp2
    go_ret2
    exact ⟨by rw [HE.out]; rfl, Gr.trans g1 (Gr.trans g2 g3)⟩
  · have HE := Lib.hid (sfT_no h)
    have hb : (chk2 s.data.toList t.data.toList == 0) = false := beq_eq_false_iff_ne.2 h
    clear h
    generalize chk2 s.data.toList t.data.toList = E at *
    go_enter Tryd.func32, Tryd.ntmps32
    go_wp2_with fail
    refine HC.out.mono ?_
    rintro e w1 ⟨rfl, g1⟩
    go_wp2
    go_ret2
    exact ⟨by rw [HE.out]; rfl, g1⟩
set_option maxRecDepth 100000 in
set_option maxHeartbeats 1000000 in
theorem sameFold_r (s t : ByteArray) (hs : s.size ≤ 140000) (ht : t.size ≤ 140000) (w : World) : Calls Tryd.prog 31 #[.string s, .string t] w (BoolQ (sfT s.data.toList t.data.toList) w) := by
  have HC := Lib.hid (fun w => both_r s t (by omega) (by omega) w)
  by_cases h : chk2 s.data.toList t.data.toList = 0
  · have HS := Lib.hid (fun w => folds_r s hs w)
    have HT := Lib.hid (fun w => folds_r t ht w)
    have HE := Lib.hid (sfT_ok h)
    have hl : ((runesL s.data.toList).flatMap foldC).length ≤ 1000000000 := by
      have : ∀ l : List Int, (l.flatMap foldC).length ≤ 3 * l.length := by
        intro l
        induction l with
        | nil => simp
        | cons c l ih => rw [List.flatMap_cons, List.length_append, List.length_cons]; have := foldC_len c; omega
      have h1 := this (runesL s.data.toList)
      have h2 := runesL_len s.data.toList
      rw [sizeL] at h2
      omega
    rw [h] at HC
    clear h
    generalize (runesL s.data.toList).flatMap foldC = X at *
    generalize (runesL t.data.toList).flatMap foldC = Y at *
    go_enter Tryd.func31, Tryd.ntmps31
    go_wp2_with fail
    refine (HC.out _).mono ?_
    rintro e w1 ⟨rfl, rfl⟩
    go_wp2_with fail
    refine (HS.out _).mono ?_
    rintro e w2 ⟨v2, rfl, h2, g2⟩
    have H2 := Lib.hid h2
    clear h2
    go_wp2_with fail
    refine (HT.out _).mono ?_
    rintro e w3 ⟨v3, rfl, h3, g3⟩
    have HQ := Lib.hid (same_r v2 v3 X Y hl w3 (H2.out.gr g3).ints h3.ints)
    clear h3
    generalize decide (X = Y) = Q at *
    go_wp2_with fail
    refine HQ.out.mono ?_
    rintro e w4 ⟨rfl, g4⟩
    go_wp2
    go_ret2
    exact ⟨by rw [HE.out]; rfl, Gr.trans g2 (Gr.trans g3 g4)⟩
  · have HE := Lib.hid (sfT_no h)
    have hb : (chk2 s.data.toList t.data.toList == 0) = false := beq_eq_false_iff_ne.2 h
    clear h
    generalize chk2 s.data.toList t.data.toList = E at *
    go_enter Tryd.func31, Tryd.ntmps31
    go_wp2_with fail
    refine (HC.out _).mono ?_
    rintro e w1 ⟨rfl, rfl⟩
    go_wp2
    go_ret2
    exact ⟨by rw [HE.out]; rfl, Gr.refl w⟩
set_option maxRecDepth 100000 in
set_option maxHeartbeats 1000000 in
theorem law_folds (s t : ByteArray) (_hs : s.size ≤ 140737488351232) (_ht : t.size ≤ 140737488351232) (w : World) (hT : Tabs w) : Calls Tryd.prog 7 #[.string s, .string t] w fun e w' => e = .returned (.bool true) ∧ Gr w w' := by
  have HK := Lib.hid (fun w (h : Tabs w) => known_any w h)
  have HT := Lib.hid hT
  clear hT
  by_cases h1 : 20000 < s.size ∨ 20000 < t.size
  · rcases h1 with h1 | h1
    · go_enter Tryd.func7, Tryd.ntmps7
      go_wp2_with fail
      refine (HK.out _ HT.out).mono ?_
      rintro e w1 ⟨rfl, g1⟩
      go_wp2
      go_ret
      exact ⟨rfl, g1⟩
    · by_cases h2 : 20000 < s.size
      all_goals
        go_enter Tryd.func7, Tryd.ntmps7
        go_wp2_with fail
        refine (HK.out _ HT.out).mono ?_
        rintro e w1 ⟨rfl, g1⟩
        go_wp2
        go_ret
        exact ⟨rfl, g1⟩
  · have k1 : ¬ 20000 < s.size := by omega
    have k2 : ¬ 20000 < t.size := by omega
    have HR := Lib.hid (fun w => sameFold_r s t (by omega) (by omega) w)
    have HP := Lib.hid (fun w => sameFold_p s t w)
    have HQ := Lib.hid (fun w => sameFold_p t s w)
    clear h1
    by_cases h : chk2 s.data.toList t.data.toList = 0
    · obtain ⟨a1, a2⟩ := chk2_zero h
      rw [sfT_ok h] at HR HP
      rw [sfT_ok (chk2_ok a2 a1), show decide ((runesL t.data.toList).flatMap foldC = (runesL s.data.toList).flatMap foldC) = decide ((runesL s.data.toList).flatMap foldC = (runesL t.data.toList).flatMap foldC) from decide_eq_decide.2 eq_comm] at HQ
      clear h a1 a2
      generalize decide ((runesL s.data.toList).flatMap foldC = (runesL t.data.toList).flatMap foldC) = Q at *
      go_enter Tryd.func7, Tryd.ntmps7
      go_wp2_with fail
      refine (HR.out _).mono ?_
      rintro e w1 ⟨rfl, g1⟩
      go_wp2_with fail
      refine (HP.out _).mono ?_
      rintro e w2 ⟨rfl, g2⟩
      go_wp2_with fail
      refine (HQ.out _).mono ?_
      rintro e w3 ⟨rfl, g3⟩
      have G := Lib.hid (Gr.trans g1 (Gr.trans g2 g3))
      go_wp2_with fail
      refine (HK.out _ (HT.out.gr G.out)).mono ?_
      rintro e w4 ⟨rfl, g4⟩
      go_wp2
      go_ret
      exact ⟨by simp, Gr.trans G.out g4⟩
    · have hne := h
      have hb : (chk2 s.data.toList t.data.toList == 0) = false := beq_eq_false_iff_ne.2 h
      rw [sfT_no h] at HR HP
      clear h
      generalize chk2 s.data.toList t.data.toList = E at *
      generalize sfT t.data.toList s.data.toList = B at *
      obtain ⟨b1, b2⟩ := B
      go_enter Tryd.func7, Tryd.ntmps7
      go_wp2_with fail
      refine (HR.out _).mono ?_
      rintro e w1 ⟨rfl, g1⟩
      go_wp2_with fail
      refine (HP.out _).mono ?_
      rintro e w2 ⟨rfl, g2⟩
      go_wp2_with fail
      refine (HQ.out _).mono ?_
      rintro e w3 ⟨rfl, g3⟩
      have G := Lib.hid (Gr.trans g1 (Gr.trans g2 g3))
      go_wp2_with fail
      refine (HK.out _ (HT.out.gr G.out)).mono ?_
      rintro e w4 ⟨rfl, g4⟩
      go_wp2
      go_ret
      exact ⟨by simp, Gr.trans G.out g4⟩
end Go.Proofs.YtlacfknoanjlpaaDoor
