/- Package num's Spell, for every two numbers. -/
import Derived.Test.YthdchkjipafmfaaDoorSp
namespace Go.Proofs.YthdchkjipafmfaaDoor
open Go.RowKit Go.Shelf
theorem spell_no (n base : Int) (h : ¬ (baseB base = true ∧ isNumB n = true)) (w : World) : Calls Tryd.prog 44 #[.int .i64 n, .int .i64 base] w (TxtPost (spl n base) (spE n base) w) := by
  rw [(spl_no h).1, (spl_no h).2]
  rcases hb : baseB base with _ | _
  · have H := Lib.hid (fun w => prefixOf_no base hb w)
    clear hb h
    go_enter Tryd.func44, Tryd.ntmps44
    go_wp2_with fail
    refine (H.out _).mono ?_
    rintro e w1 ⟨rfl, rfl⟩
    go_wp2
    go_ret2
    exact ⟨_, rfl, rfl, Gr.refl w⟩
  · have H := Lib.hid (fun w => prefixOf_yes base hb w)
    have hn : isNumB n = false := by
      rcases hn : isNumB n with _ | _
      · rfl
      · exact absurd ⟨hb, hn⟩ h
    clear hb h
    go_enter Tryd.func44, Tryd.ntmps44
    go_wp2_with fail
    refine (H.out _).mono ?_
    rintro e w1 ⟨rfl, rfl⟩
    go_wp2_with (go_at_call 62; refine (isNumber_any _ _).mono ?_; rintro e w' ⟨rfl, rfl⟩)
    go_ret2
    exact ⟨_, rfl, rfl, Gr.refl w⟩
theorem pfxN_eq {base m : Int} (hb : baseB base = true) (h : base = 8 → 0 < m) : (pfxN base).data.toList = pfx base m := by
  have hc : base = 2 ∨ base = 8 ∨ base = 10 ∨ base = 16 := by simp [baseB] at hb; omega
  rcases hc with rfl | rfl | rfl | rfl
  · rfl
  · have := h rfl; simp [pfxN, pfx, this]
  · simp [pfxN, pfx]
  · rfl
theorem pfxN_size (base : Int) : (pfxN base).size ≤ 2 := by
  unfold pfxN; split
  · decide
  · split
    · decide
    · split <;> decide
set_option maxRecDepth 100000 in
set_option maxHeartbeats 1000000 in
theorem spell_ok (n base : Int) (hb : baseB base = true) (hn : isNumB n = true) (w : World) (hT : Tab w) (hD : DTab w) : Calls Tryd.prog 44 #[.int .i64 n, .int .i64 base] w (TxtPost (spl n base) (spE n base) w) := by
  have hc : base = 2 ∨ base = 8 ∨ base = 10 ∨ base = 16 := by simp [baseB] at hb; omega
  have hnb : -9007199254740992 ≤ n ∧ n ≤ 9007199254740992 := by simpa [isNumB] using hn
  have H := Lib.hid (fun w => prefixOf_yes base hb w)
  have HS := Lib.hid (fun w => size_any n w (by omega) (by omega))
  have hp := pfxN_size base
  have HF : Hid (WriPost (sp base.toNat n.natAbs) w = WriPost (sp base.toNat n.natAbs) w ∧ Calls Tryd.prog 74 #[.int .i64 (n.natAbs : Int), .int .i64 base] w (WriPost (sp base.toNat n.natAbs) w)) := Lib.hid ⟨rfl, by
    obtain ⟨b, rfl⟩ : ∃ b : Nat, base = (b : Int) := ⟨base.toNat, by omega⟩
    exact formatInt_any b n.natAbs hb (by omega) w hT hD⟩
  have hbn : 2 ≤ base.toNat := by omega
  have hna : n.natAbs ≤ 9007199254740992 := by omega
  have HB := Lib.hid hb
  by_cases h0 : n < 0
  · have HR := Lib.hid (spl_neg hb hn h0)
    have HP : Hid ((pfxN base).data.toList = pfx base (-n)) := Lib.hid (pfxN_eq hb (fun _ => by omega))
    have hz : (n == 0) = false := by simp; omega
    generalize pfxN base = p at *
    rw [HR.out.2]
    clear hb hT hD hc
    go_enter Tryd.func44, Tryd.ntmps44
    go_wp2_with fail
    refine (H.out _).mono ?_
    rintro e w1 ⟨rfl, rfl⟩
    go_wp2_with (go_at_call 62; refine (isNumber_any _ _).mono ?_; rintro e w' ⟨rfl, rfl⟩)
    refine (HS.out _).mono ?_
    rintro e w1 ⟨rfl, rfl⟩
    go_wp2_with fail
    refine HF.out.2.mono ?_
    rintro e w1 ⟨r, hr, rfl, hg⟩
    have hrs := sp_size hbn hna hr
    have Hr := Lib.hid hr
    clear hr
    go_wp2
    go_ret2
    exact ⟨_, by rw [HR.out.1, app_data, app_data, Hr.out, HP.out]; rfl, rfl, hg⟩
  · have HR := Lib.hid (spl_pos hb hn h0)
    by_cases h8 : base = 8 ∧ n = 0
    · obtain ⟨rfl, rfl⟩ := h8
      rw [HR.out.2]
      clear hb hT hD hc
      go_enter Tryd.func44, Tryd.ntmps44
      go_wp2_with fail
      refine (H.out _).mono ?_
      rintro e w1 ⟨rfl, rfl⟩
      go_wp2_with (go_at_call 62; refine (isNumber_any _ _).mono ?_; rintro e w' ⟨rfl, rfl⟩)
      refine (HS.out _).mono ?_
      rintro e w1 ⟨rfl, rfl⟩
      go_wp2_with fail
      refine HF.out.2.mono ?_
      rintro e w1 ⟨r, hr, rfl, hg⟩
      have Hr := Lib.hid hr
      clear hr
      go_wp2
      go_ret2
      exact ⟨_, by rw [HR.out.1, Hr.out]; rfl, rfl, hg⟩
    · have HP : Hid ((pfxN base).data.toList = pfx base n) := Lib.hid (pfxN_eq hb (fun h => by omega))
      have ht : ((n == 0) && (base == 8)) = false := by
        rcases hz : (n == 0) with _ | _
        · rfl
        · rcases hz8 : (base == 8) with _ | _
          · rfl
          · exact absurd ⟨by simpa using hz8, by simpa using hz⟩ h8
      generalize pfxN base = p at *
      rw [HR.out.2]
      clear hb hT hD hc h8
      rcases hz : (n == 0) with _ | _
      all_goals
        rw [hz] at ht
        go_enter Tryd.func44, Tryd.ntmps44
        go_wp2_with fail
        refine (H.out _).mono ?_
        rintro e w1 ⟨rfl, rfl⟩
        go_wp2_with (go_at_call 62; refine (isNumber_any _ _).mono ?_; rintro e w' ⟨rfl, rfl⟩)
        refine (HS.out _).mono ?_
        rintro e w1 ⟨rfl, rfl⟩
        go_wp2_with fail
        refine HF.out.2.mono ?_
        rintro e w1 ⟨r, hr, rfl, hg⟩
        have hrs := sp_size hbn hna hr
        have Hr := Lib.hid hr
        clear hr
        go_wp2
        go_ret2
        exact ⟨_, by rw [HR.out.1, app_data, Hr.out, HP.out], rfl, hg⟩
end Go.Proofs.YthdchkjipafmfaaDoor
