/- The reference's Spell, for every two numbers. -/
import Derived.Test.YthdchkjipafmfaaDoorSp
namespace Go.Proofs.YthdchkjipafmfaaDoor
open Go.RowKit Go.Shelf
theorem refSpell_no (n base : Int) (h : ¬ (baseB base = true ∧ isNumB n = true)) (w : World) : Calls Tryd.prog 43 #[.int .i64 n, .int .i64 base] w (TxtPost (spl n base) (spE n base) w) := by
  rw [(spl_no h).1, (spl_no h).2]
  rcases hb : baseB base with _ | _
  · have h2 : (base != 2) = true := by simp [baseB] at hb ⊢; omega
    have h8 : (base != 8) = true := by simp [baseB] at hb ⊢; omega
    have h10 : (base != 10) = true := by simp [baseB] at hb ⊢; omega
    have h16 : (base != 16) = true := by simp [baseB] at hb ⊢; omega
    clear hb h
    go_enter Tryd.func43, Tryd.ntmps43
    go_wp2
    go_ret2
    exact ⟨_, rfl, rfl, Gr.refl w⟩
  · have hc : base = 2 ∨ base = 8 ∨ base = 10 ∨ base = 16 := by simp [baseB] at hb; omega
    have hn : isNumB n = false := by
      rcases hn : isNumB n with _ | _
      · rfl
      · exact absurd ⟨hb, hn⟩ h
    clear hb h
    rcases hc with rfl | rfl | rfl | rfl
    all_goals
      go_enter Tryd.func43, Tryd.ntmps43
      go_wp2_with (go_at_call 47; refine (isNum_any _ _).mono ?_; rintro e w' ⟨rfl, rfl⟩)
      go_ret2
      exact ⟨_, rfl, rfl, Gr.refl w⟩
set_option maxRecDepth 100000 in
set_option maxHeartbeats 1000000 in
theorem refSpell_nn (base u : Nat) (hb : baseB base = true) (hu : u ≤ 9007199254740992) (w : World) : Calls Tryd.prog 43 #[.int .i64 (u : Int), .int .i64 (base : Int)] w (TxtPost (pfx base u ++ sp base u) 0 w) := by
  have hc : base = 2 ∨ base = 8 ∨ base = 10 ∨ base = 16 := by simp [baseB] at hb; omega
  have hn : isNumB (u : Int) = true := by simp [isNumB]; omega
  clear hb
  rcases hc with rfl | rfl | rfl | rfl
  case inl =>
    have H := Lib.hid (spelled2 u u w (Nat.le_refl _) hu)
    have HP : Hid (pfx ((2 : Nat) : Int) u = [48, 98]) := Lib.hid rfl
    show Calls _ _ #[.int .i64 (u : Int), .int .i64 2] _ _
    go_enter Tryd.func43, Tryd.ntmps43
    go_wp2_with (go_at_call 47; refine (isNum_any _ _).mono ?_; rintro e w' ⟨rfl, rfl⟩)
    refine H.out.mono ?_
    rintro e w1 ⟨r, hr, rfl, hg⟩
    have hrs := sp_size (by decide) hu hr
    have Hr := Lib.hid hr
    clear hr
    go_wp2
    go_ret2
    exact ⟨_, by rw [app_data, Hr.out, HP.out], rfl, hg⟩
  case inr.inr.inr =>
    have H := Lib.hid (spelled16 u u w (Nat.le_refl _) hu)
    have HP : Hid (pfx ((16 : Nat) : Int) u = [48, 120]) := Lib.hid rfl
    show Calls _ _ #[.int .i64 (u : Int), .int .i64 16] _ _
    go_enter Tryd.func43, Tryd.ntmps43
    go_wp2_with (go_at_call 47; refine (isNum_any _ _).mono ?_; rintro e w' ⟨rfl, rfl⟩)
    refine H.out.mono ?_
    rintro e w1 ⟨r, hr, rfl, hg⟩
    have hrs := sp_size (by decide) hu hr
    have Hr := Lib.hid hr
    clear hr
    go_wp2
    go_ret2
    exact ⟨_, by rw [app_data, Hr.out, HP.out], rfl, hg⟩
  case inr.inr.inl =>
    have H := Lib.hid (spelled10 u u w (Nat.le_refl _) hu)
    have HP : Hid (pfx ((10 : Nat) : Int) u = []) := Lib.hid (by simp [pfx])
    show Calls _ _ #[.int .i64 (u : Int), .int .i64 10] _ _
    go_enter Tryd.func43, Tryd.ntmps43
    go_wp2_with (go_at_call 47; refine (isNum_any _ _).mono ?_; rintro e w' ⟨rfl, rfl⟩)
    refine H.out.mono ?_
    rintro e w1 ⟨r, hr, rfl, hg⟩
    have hrs := sp_size (by decide) hu hr
    have Hr := Lib.hid hr
    clear hr
    go_wp2
    go_ret2
    exact ⟨_, by rw [app_data, Hr.out, HP.out], rfl, hg⟩
  case inr.inl =>
    have H := Lib.hid (spelled8 u u w (Nat.le_refl _) hu)
    by_cases h0 : 0 < u
    · have HP : Hid (pfx ((8 : Nat) : Int) u = [48]) := Lib.hid (by simp [pfx, h0])
      show Calls _ _ #[.int .i64 (u : Int), .int .i64 8] _ _
      go_enter Tryd.func43, Tryd.ntmps43
      go_wp2_with (go_at_call 47; refine (isNum_any _ _).mono ?_; rintro e w' ⟨rfl, rfl⟩)
      refine H.out.mono ?_
      rintro e w1 ⟨r, hr, rfl, hg⟩
      have hrs := sp_size (by decide) hu hr
      have Hr := Lib.hid hr
      clear hr
      go_wp2
      go_ret2
      exact ⟨_, by rw [app_data, Hr.out, HP.out], rfl, hg⟩
    · obtain rfl : u = 0 := by omega
      have HP : Hid (pfx ((8 : Nat) : Int) ((0 : Nat) : Int) = []) := Lib.hid rfl
      show Calls _ _ #[.int .i64 0, .int .i64 8] _ _
      go_enter Tryd.func43, Tryd.ntmps43
      go_wp2_with (go_at_call 47; refine (isNum_any _ _).mono ?_; rintro e w' ⟨rfl, rfl⟩)
      refine H.out.mono ?_
      rintro e w1 ⟨r, hr, rfl, hg⟩
      have hrs := sp_size (by decide) hu hr
      have Hr := Lib.hid hr
      clear hr
      go_wp2
      go_ret2
      exact ⟨_, by rw [app_data, Hr.out, HP.out], rfl, hg⟩
theorem refSpell_any (n base : Int) (w : World) : Calls Tryd.prog 43 #[.int .i64 n, .int .i64 base] w (TxtPost (spl n base) (spE n base) w) := by
  by_cases hok : baseB base = true ∧ isNumB n = true
  · obtain ⟨hb, hn⟩ := hok
    have hc : base = 2 ∨ base = 8 ∨ base = 10 ∨ base = 16 := by simp [baseB] at hb; omega
    have hnb : -9007199254740992 ≤ n ∧ n ≤ 9007199254740992 := by simpa [isNumB] using hn
    obtain ⟨b, rfl⟩ : ∃ b : Nat, base = (b : Int) := ⟨base.toNat, by omega⟩
    by_cases h0 : n < 0
    · have HR := Lib.hid (spl_neg hb hn h0)
      rw [HR.out.2]
      obtain ⟨u, rfl⟩ : ∃ u : Nat, n = -(u : Int) := ⟨(-n).toNat, by omega⟩
      have hu : u ≤ 9007199254740992 := by omega
      have hl : (pfx (b : Int) u ++ sp b u).length ≤ 56 := by
        have h1 := sp_len b (by omega) 53 u (Nat.lt_of_le_of_lt hu (by decide))
        have h2 : (pfx (b : Int) u).length ≤ 2 := by
          unfold pfx; split
          · decide
          · split
            · decide
            · split <;> decide
        rw [List.length_append]; omega
      have H := Lib.hid (refSpell_nn b u hb hu w)
      have HE : Hid (spl (-(u : Int)) b = 45 :: (pfx (b : Int) u ++ sp b u)) := Lib.hid (by rw [HR.out.1, Int.neg_neg, Int.toNat_natCast, Int.natAbs_neg, Int.natAbs_natCast])
      generalize pfx (b : Int) u ++ sp b u = L at *
      generalize hbz : (b : Int) = z at *
      have hcz : z = 2 ∨ z = 8 ∨ z = 10 ∨ z = 16 := hc
      clear hc hb hbz HR
      rcases hcz with rfl | rfl | rfl | rfl
      all_goals
        go_enter Tryd.func43, Tryd.ntmps43
        go_wp2_with (go_at_call 47; refine (isNum_any _ _).mono ?_; rintro e w' ⟨rfl, rfl⟩)
        refine H.out.mono ?_
        rintro e w1 ⟨r, hr, rfl, hg⟩
        have hrs : r.size ≤ 56 := by rw [← sizeL, hr]; exact hl
        have Hr := Lib.hid hr
        clear hr
        go_wp2
        go_ret2
        exact ⟨_, by rw [HE.out, app_data, Hr.out]; rfl, rfl, hg⟩
    · have HR := spl_pos hb hn h0
      rw [HR.1, HR.2]
      obtain ⟨u, rfl⟩ : ∃ u : Nat, n = (u : Int) := ⟨n.toNat, by omega⟩
      rw [Int.toNat_natCast, Int.natAbs_natCast]
      exact refSpell_nn b u hb (by omega) w
  · exact refSpell_no n base hok w
end Go.Proofs.YthdchkjipafmfaaDoor
