/- The reference's Lower, Upper, Title, Fold; the law on forms. -/
import Derived.Test.YtlacfknoanjlpaaDoorCKnow
import Derived.Test.YtlacfknoanjlpaaDoorCRFd1
import Derived.Test.YtlacfknoanjlpaaDoorCRFd2
import Derived.Test.YtlacfknoanjlpaaDoorCRFd3
namespace Go.Proofs.YtlacfknoanjlpaaDoor
open Go.RowKit Go.Shelf
theorem formed_all (m : Int) (s : ByteArray) (hs : s.size ≤ 140000) (r : List Int) (hr : r = formG m (runesL s.data.toList) 0)
    (hf : chkE s.data.toList = 0 → ∀ w, Calls Tryd.prog 66 #[.string s, .int .i64 m] w (TxtPost (ansT s.data.toList (writeL (formG m (runesL s.data.toList) 0))) w)) (w : World) :
    Calls Tryd.prog 66 #[.string s, .int .i64 m] w (TxtPost (ansT s.data.toList (writeL r)) w) := by
  by_cases h : chkE s.data.toList = 0
  · rw [hr]; exact hf h w
  · exact formed_bad s hs m _ h w
set_option maxRecDepth 100000 in
theorem lower_r (s : ByteArray) (hs : s.size ≤ 140000) (w : World) : Calls Tryd.prog 23 #[.string s] w (TxtPost (lowerT s.data.toList) w) := by
  have HH := Lib.hid (show ∀ w, Calls Tryd.prog 66 #[.string s, .int .i64 0] w (TxtPost (lowerT s.data.toList) w) from fun w => formed_all 0 s hs _ (form0 _ 0).symm (fun h w => formed_0 s hs h w) w)
  generalize lowerT s.data.toList = A at *
  go_enter Tryd.func23, Tryd.ntmps23
  go_wp2_with fail
  refine (HH.out _).mono ?_
  rintro e w3 ⟨rfl, g3⟩
  go_wp2
  go_ret2
  exact ⟨rfl, g3⟩
set_option maxRecDepth 100000 in
theorem upper_r (s : ByteArray) (hs : s.size ≤ 140000) (w : World) : Calls Tryd.prog 24 #[.string s] w (TxtPost (upperT s.data.toList) w) := by
  have HH := Lib.hid (show ∀ w, Calls Tryd.prog 66 #[.string s, .int .i64 1] w (TxtPost (upperT s.data.toList) w) from fun w => formed_all 1 s hs _ (form1 _ 0).symm (fun h w => formed_1 s hs h w) w)
  generalize upperT s.data.toList = A at *
  go_enter Tryd.func24, Tryd.ntmps24
  go_wp2_with fail
  refine (HH.out _).mono ?_
  rintro e w3 ⟨rfl, g3⟩
  go_wp2
  go_ret2
  exact ⟨rfl, g3⟩
set_option maxRecDepth 100000 in
theorem foldT_r (s : ByteArray) (hs : s.size ≤ 140000) (w : World) : Calls Tryd.prog 28 #[.string s] w (TxtPost (foldT s.data.toList) w) := by
  have HH := Lib.hid (show ∀ w, Calls Tryd.prog 66 #[.string s, .int .i64 2] w (TxtPost (foldT s.data.toList) w) from fun w => formed_all 2 s hs _ (form2 _ 0).symm (fun h w => formed_2 s hs h w) w)
  generalize foldT s.data.toList = A at *
  go_enter Tryd.func28, Tryd.ntmps28
  go_wp2_with fail
  refine (HH.out _).mono ?_
  rintro e w3 ⟨rfl, g3⟩
  go_wp2
  go_ret2
  exact ⟨rfl, g3⟩
set_option maxRecDepth 100000 in
theorem title_r (s : ByteArray) (hs : s.size ≤ 140000) (w : World) : Calls Tryd.prog 27 #[.string s] w (TxtPost (titleT s.data.toList) w) := by
  have HH := Lib.hid (show ∀ w, Calls Tryd.prog 66 #[.string s, .int .i64 3] w (TxtPost (titleT s.data.toList) w) from fun w => formed_all 3 s hs _ (form3 _).symm (fun h w => formed_3 s hs h w) w)
  generalize titleT s.data.toList = A at *
  go_enter Tryd.func27, Tryd.ntmps27
  go_wp2_with fail
  refine (HH.out _).mono ?_
  rintro e w3 ⟨rfl, g3⟩
  go_wp2
  go_ret2
  exact ⟨rfl, g3⟩
theorem ansT_zero {l r : List UInt8} (h : (ansT l r).2 = 0) : chkE l = 0 ∧ r.length ≤ 4096 ∧ ansT l r = (r, 0) := by
  by_cases h1 : chkE l = 0
  · rw [ansT_ok h1] at h ⊢
    unfold sizE at h ⊢
    by_cases h2 : 4096 < r.length
    · rw [if_pos h2] at h; cases h
    · rw [if_neg h2]; exact ⟨h1, by omega, rfl⟩
  · rw [ansT_no h1] at h; exact absurd h h1
theorem low_again {l : List UInt8} (h : (lowerT l).2 = 0) : lowerT (lowerT l).1 = ((lowerT l).1, 0) := by
  obtain ⟨h1, h2, h3⟩ := ansT_zero (l := l) (r := writeL ((runesL l).map smallC)) h
  have ha : ((runesL l).map smallC).all isCh = true := all_map (fun c h => small_ch h) (runes_ch l)
  have e : lowerT l = (writeL ((runesL l).map smallC), 0) := h3
  rw [e]
  show ansT (writeL ((runesL l).map smallC)) (writeL ((runesL (writeL ((runesL l).map smallC))).map smallC)) = _
  rw [ansT_ok (chk_write ha h2), (runes_write _ ha).1, smalls_smalls]
  unfold sizE
  rw [if_neg (by omega)]
theorem fold_again {l : List UInt8} (h : (foldT l).2 = 0) : foldT (foldT l).1 = ((foldT l).1, 0) := by
  obtain ⟨h1, h2, h3⟩ := ansT_zero (l := l) (r := writeL ((runesL l).flatMap foldC)) h
  have ha : ((runesL l).flatMap foldC).all isCh = true := all_flat (fun c h => fold_ch h) (runes_ch l)
  have e : foldT l = (writeL ((runesL l).flatMap foldC), 0) := h3
  rw [e]
  show ansT (writeL ((runesL l).flatMap foldC)) (writeL ((runesL (writeL ((runesL l).flatMap foldC))).flatMap foldC)) = _
  rw [ansT_ok (chk_write ha h2), (runes_write _ ha).1, folds_folds]
  unfold sizE
  rw [if_neg (by omega)]
set_option maxRecDepth 100000 in
set_option maxHeartbeats 4000000 in
theorem law_forms (s : ByteArray) (_hs : s.size ≤ 140737488351232) (w : World) (hT : Tabs w) : Calls Tryd.prog 6 #[.string s] w fun e w' => e = .returned (.bool true) ∧ Gr w w' := by
  have HK := Lib.hid (fun w (h : Tabs w) => known_any w h)
  have HT := Lib.hid hT
  clear hT
  by_cases h1 : 20000 < s.size
  · go_enter Tryd.func6, Tryd.ntmps6
    go_wp2_with fail
    refine (HK.out _ HT.out).mono ?_
    rintro e w1 ⟨rfl, g1⟩
    go_wp2
    go_ret
    exact ⟨rfl, g1⟩
  · have HL := Lib.hid (fun w => lower_r s (by omega) w)
    have HU := Lib.hid (fun w => upper_r s (by omega) w)
    have HI := Lib.hid (fun w => title_r s (by omega) w)
    have HF := Lib.hid (fun w => foldT_r s (by omega) w)
    have PL := Lib.hid (fun w => lower_p s w)
    have PU := Lib.hid (fun w => upper_p s w)
    have PI := Lib.hid (fun w h => title_p s w h)
    have PF := Lib.hid (fun w => foldT_p s w)
    have QL := Lib.hid (fun w => lower_p ⟨(lowerT s.data.toList).1.toArray⟩ w)
    have QF := Lib.hid (fun w => foldT_p ⟨(foldT s.data.toList).1.toArray⟩ w)
    rw [show (⟨(lowerT s.data.toList).1.toArray⟩ : ByteArray).data.toList = (lowerT s.data.toList).1 by simp] at QL
    rw [show (⟨(foldT s.data.toList).1.toArray⟩ : ByteArray).data.toList = (foldT s.data.toList).1 by simp] at QF
    have hla := @low_again s.data.toList
    have hfa := @fold_again s.data.toList
    generalize lowerT (lowerT s.data.toList).1 = LL at *
    generalize foldT (foldT s.data.toList).1 = FF at *
    generalize lowerT s.data.toList = A at *
    generalize upperT s.data.toList = B at *
    generalize titleT s.data.toList = C at *
    generalize foldT s.data.toList = D at *
    obtain ⟨a1, a2⟩ := A
    obtain ⟨b1, b2⟩ := B
    obtain ⟨c1, c2⟩ := C
    obtain ⟨d1, d2⟩ := D
    have key : ∀ (LL FF : List UInt8 × Int), ((a2 = 0 ∧ LL = (a1, 0)) ∨ ¬ a2 = 0) → ((d2 = 0 ∧ FF = (d1, 0)) ∨ ¬ d2 = 0) →
        Hid (∀ w, Calls Tryd.prog 25 #[.string ⟨a1.toArray⟩] w (TxtPost LL w)) → Hid (∀ w, Calls Tryd.prog 30 #[.string ⟨d1.toArray⟩] w (TxtPost FF w)) →
        Calls Tryd.prog 6 #[.string s] w fun e w' => e = .returned (.bool true) ∧ Gr w w' := by
      clear hla hfa QL QF LL FF
      intro LL FF k1 k2 QL QF
      obtain ⟨l1, l2⟩ := LL
      obtain ⟨f1, f2⟩ := FF
      rcases k1 with ⟨rfl, k1⟩ | k1 <;> rcases k2 with ⟨rfl, k2⟩ | k2
      all_goals
        try (cases k1)
        try (cases k2)
        go_enter Tryd.func6, Tryd.ntmps6
        go_wp2_with fail
        refine (HL.out _).mono ?_
        rintro e w1 ⟨rfl, g1⟩
        go_wp2_with fail
        refine (HU.out _).mono ?_
        rintro e w2 ⟨rfl, g2⟩
        go_wp2_with fail
        refine (PL.out _).mono ?_
        rintro e w3 ⟨rfl, g3⟩
        go_wp2_with fail
        refine (PU.out _).mono ?_
        rintro e w4 ⟨rfl, g4⟩
        go_wp2_with fail
        refine (HI.out _).mono ?_
        rintro e w5 ⟨rfl, g5⟩
        go_wp2_with fail
        refine (HF.out _).mono ?_
        rintro e w6 ⟨rfl, g6⟩
        have G := Lib.hid (Gr.trans g1 (Gr.trans g2 (Gr.trans g3 (Gr.trans g4 (Gr.trans g5 g6)))))
        go_wp2_with fail
        refine (PI.out _ (HT.out.gr G.out)).mono ?_
        rintro e w7 ⟨rfl, g7⟩
        go_wp2_with fail
        refine (PF.out _).mono ?_
        rintro e w8 ⟨rfl, g8⟩
        go_wp2_with fail
        refine (QL.out _).mono ?_
        rintro e w9 ⟨rfl, g9⟩
        go_wp2_with fail
        refine (QF.out _).mono ?_
        rintro e w10 ⟨rfl, g10⟩
        have G := Lib.hid (Gr.trans G.out (Gr.trans g7 (Gr.trans g8 (Gr.trans g9 g10))))
        go_wp2_with fail
        refine (HK.out _ (HT.out.gr G.out)).mono ?_
        rintro e w11 ⟨rfl, g11⟩
        go_wp2
        go_ret
        exact ⟨by simp, Gr.trans G.out g11⟩
    refine key LL FF ?_ ?_ QL QF
    · by_cases h : a2 = 0
      · exact .inl ⟨h, hla h⟩
      · exact .inr h
    · by_cases h : d2 = 0
      · exact .inl ⟨h, hfa h⟩
      · exact .inr h
end Go.Proofs.YtlacfknoanjlpaaDoor
