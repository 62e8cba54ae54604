/- The reference's spelled, at the four bases. -/
import Derived.Test.YthdchkjipafmfaaDoorSpl
namespace Go.Proofs.YthdchkjipafmfaaDoor
open Go.RowKit Go.Shelf
theorem sp_len (base : Nat) (hb : 2 ≤ base) (k : Nat) : ∀ u, u < 2 ^ (k + 1) → (sp base u).length ≤ k + 1 := by
  induction k with
  | zero => intro u hu; rw [sp_one (by have : u < 2 := hu; omega)]; simp
  | succ k ih =>
    intro u hu
    by_cases h : u < base
    · rw [sp_one h]; simp
    · have : u / base < 2 ^ (k + 1) := by
        rw [Nat.pow_succ] at hu
        exact Nat.lt_of_le_of_lt (Nat.div_le_div_left hb (by decide)) (Nat.div_lt_of_lt_mul (by omega))
      rw [sp_more h hb, List.length_append]
      have := ih _ this
      simp; omega
theorem sp_size {base u : Nat} {r : ByteArray} (hb : 2 ≤ base) (hu : u ≤ 9007199254740992) (h : r.data.toList = sp base u) : r.size ≤ 54 := by
  have := sp_len base hb 53 u (Nat.lt_of_le_of_lt hu (by decide))
  rw [← h, sizeL] at this
  exact this
def digs16 : ByteArray := ⟨#[48, 49, 50, 51, 52, 53, 54, 55, 56, 57, 97, 98, 99, 100, 101, 102]⟩
theorem cut16 (d : Nat) (hd : d < 16) : (digs16.extract d (d + 1)).data.toList = [digC d] := by
  have h16 : ∀ d : Fin 16, (digs16.extract d.1 (d.1 + 1)).data.toList = [digC d.1] := by decide
  exact h16 ⟨d, hd⟩
set_option maxRecDepth 100000 in
set_option maxHeartbeats 1000000 in
theorem spelled2 (k : Nat) : ∀ (u : Nat) (w : World), u ≤ k → u ≤ 9007199254740992 → Calls Tryd.prog 72 #[.int .i64 (u : Int), .int .i64 2] w (WriPost (sp 2 u) w) := by
  induction k with
  | zero =>
    intro u w hk hu
    obtain rfl : u = 0 := by omega
    go_enter Tryd.func72, Tryd.ntmps72
    go_wp2_with fail
    go_quiet (fail)
    go_wp2
    go_ret
    exact ⟨_, by rw [sp_one (by decide)]; rfl, rfl, (Gr.refl w).drewN _⟩
  | succ k ih =>
    intro u w hk hu
    have ih' := Lib.hid ih
    clear ih
    have hd16 : u % 2 < 2 := Nat.mod_lt _ (by decide)
    have hrem : (u : Int) % 2 = ((u % 2 : Nat) : Int) := rfl
    obtain ⟨d, hd⟩ : ∃ d, d = u % 2 := ⟨_, rfl⟩
    rw [← hd] at hrem hd16
    have Hd := Lib.hid hd
    have HC := Lib.hid (cut16 d (by omega))
    have hcs : (digs16.extract d (d + 1)).size ≤ 16 := by simp [digs16]; omega
    unfold digs16 at hcs
    clear hd
    by_cases h : u < 2
    · have HS : Hid (sp 2 u = [digC d]) := Lib.hid (by rw [sp_one h, Hd.out, Nat.mod_eq_of_lt h])
      go_enter Tryd.func72, Tryd.ntmps72
      go_wp2_with fail
      go_quiet (fail)
      go_wp2
      go_ret
      exact ⟨_, by rw [HS.out]; exact HC.out, rfl, (Gr.refl w).drewN _⟩
    · have HS : Hid (sp 2 u = sp 2 (u / 2) ++ [digC d]) := Lib.hid (by rw [sp_more h (by decide), Hd.out])
      have HI : Hid (∀ w, Calls Tryd.prog 72 #[.int .i64 ((u : Int) / 2), .int .i64 2] w (WriPost (sp 2 (u / 2)) w)) := Lib.hid fun w => ih'.out (u / 2) w (by omega) (by omega)
      clear ih'
      go_enter Tryd.func72, Tryd.ntmps72
      go_wp2_with fail
      go_quiet (fail)
      go_wp2_with fail
      refine (HI.out _).mono ?_
      rintro e w1 ⟨r, hr, rfl, hg⟩
      have hrs := sp_size (by decide) (by omega) hr
      have Hr := Lib.hid hr
      clear hr
      go_wp2
      go_ret
      exact ⟨_, by rw [HS.out, app_data, Hr.out, ← HC.out]; rfl, rfl, ((Gr.refl w).drewN _).trans hg⟩
set_option maxRecDepth 100000 in
set_option maxHeartbeats 1000000 in
theorem spelled8 (k : Nat) : ∀ (u : Nat) (w : World), u ≤ k → u ≤ 9007199254740992 → Calls Tryd.prog 72 #[.int .i64 (u : Int), .int .i64 8] w (WriPost (sp 8 u) w) := by
  induction k with
  | zero =>
    intro u w hk hu
    obtain rfl : u = 0 := by omega
    go_enter Tryd.func72, Tryd.ntmps72
    go_wp2_with fail
    go_quiet (fail)
    go_wp2
    go_ret
    exact ⟨_, by rw [sp_one (by decide)]; rfl, rfl, (Gr.refl w).drewN _⟩
  | succ k ih =>
    intro u w hk hu
    have ih' := Lib.hid ih
    clear ih
    have hd16 : u % 8 < 8 := Nat.mod_lt _ (by decide)
    have hrem : (u : Int) % 8 = ((u % 8 : Nat) : Int) := rfl
    obtain ⟨d, hd⟩ : ∃ d, d = u % 8 := ⟨_, rfl⟩
    rw [← hd] at hrem hd16
    have Hd := Lib.hid hd
    have HC := Lib.hid (cut16 d (by omega))
    have hcs : (digs16.extract d (d + 1)).size ≤ 16 := by simp [digs16]; omega
    unfold digs16 at hcs
    clear hd
    by_cases h : u < 8
    · have HS : Hid (sp 8 u = [digC d]) := Lib.hid (by rw [sp_one h, Hd.out, Nat.mod_eq_of_lt h])
      go_enter Tryd.func72, Tryd.ntmps72
      go_wp2_with fail
      go_quiet (fail)
      go_wp2
      go_ret
      exact ⟨_, by rw [HS.out]; exact HC.out, rfl, (Gr.refl w).drewN _⟩
    · have HS : Hid (sp 8 u = sp 8 (u / 8) ++ [digC d]) := Lib.hid (by rw [sp_more h (by decide), Hd.out])
      have HI : Hid (∀ w, Calls Tryd.prog 72 #[.int .i64 ((u : Int) / 8), .int .i64 8] w (WriPost (sp 8 (u / 8)) w)) := Lib.hid fun w => ih'.out (u / 8) w (by omega) (by omega)
      clear ih'
      go_enter Tryd.func72, Tryd.ntmps72
      go_wp2_with fail
      go_quiet (fail)
      go_wp2_with fail
      refine (HI.out _).mono ?_
      rintro e w1 ⟨r, hr, rfl, hg⟩
      have hrs := sp_size (by decide) (by omega) hr
      have Hr := Lib.hid hr
      clear hr
      go_wp2
      go_ret
      exact ⟨_, by rw [HS.out, app_data, Hr.out, ← HC.out]; rfl, rfl, ((Gr.refl w).drewN _).trans hg⟩
set_option maxRecDepth 100000 in
set_option maxHeartbeats 1000000 in
theorem spelled10 (k : Nat) : ∀ (u : Nat) (w : World), u ≤ k → u ≤ 9007199254740992 → Calls Tryd.prog 72 #[.int .i64 (u : Int), .int .i64 10] w (WriPost (sp 10 u) w) := by
  induction k with
  | zero =>
    intro u w hk hu
    obtain rfl : u = 0 := by omega
    go_enter Tryd.func72, Tryd.ntmps72
    go_wp2_with fail
    go_quiet (fail)
    go_wp2
    go_ret
    exact ⟨_, by rw [sp_one (by decide)]; rfl, rfl, (Gr.refl w).drewN _⟩
  | succ k ih =>
    intro u w hk hu
    have ih' := Lib.hid ih
    clear ih
    have hd16 : u % 10 < 10 := Nat.mod_lt _ (by decide)
    have hrem : (u : Int) % 10 = ((u % 10 : Nat) : Int) := rfl
    obtain ⟨d, hd⟩ : ∃ d, d = u % 10 := ⟨_, rfl⟩
    rw [← hd] at hrem hd16
    have Hd := Lib.hid hd
    have HC := Lib.hid (cut16 d (by omega))
    have hcs : (digs16.extract d (d + 1)).size ≤ 16 := by simp [digs16]; omega
    unfold digs16 at hcs
    clear hd
    by_cases h : u < 10
    · have HS : Hid (sp 10 u = [digC d]) := Lib.hid (by rw [sp_one h, Hd.out, Nat.mod_eq_of_lt h])
      go_enter Tryd.func72, Tryd.ntmps72
      go_wp2_with fail
      go_quiet (fail)
      go_wp2
      go_ret
      exact ⟨_, by rw [HS.out]; exact HC.out, rfl, (Gr.refl w).drewN _⟩
    · have HS : Hid (sp 10 u = sp 10 (u / 10) ++ [digC d]) := Lib.hid (by rw [sp_more h (by decide), Hd.out])
      have HI : Hid (∀ w, Calls Tryd.prog 72 #[.int .i64 ((u : Int) / 10), .int .i64 10] w (WriPost (sp 10 (u / 10)) w)) := Lib.hid fun w => ih'.out (u / 10) w (by omega) (by omega)
      clear ih'
      go_enter Tryd.func72, Tryd.ntmps72
      go_wp2_with fail
      go_quiet (fail)
      go_wp2_with fail
      refine (HI.out _).mono ?_
      rintro e w1 ⟨r, hr, rfl, hg⟩
      have hrs := sp_size (by decide) (by omega) hr
      have Hr := Lib.hid hr
      clear hr
      go_wp2
      go_ret
      exact ⟨_, by rw [HS.out, app_data, Hr.out, ← HC.out]; rfl, rfl, ((Gr.refl w).drewN _).trans hg⟩
set_option maxRecDepth 100000 in
set_option maxHeartbeats 1000000 in
theorem spelled16 (k : Nat) : ∀ (u : Nat) (w : World), u ≤ k → u ≤ 9007199254740992 → Calls Tryd.prog 72 #[.int .i64 (u : Int), .int .i64 16] w (WriPost (sp 16 u) w) := by
  induction k with
  | zero =>
    intro u w hk hu
    obtain rfl : u = 0 := by omega
    go_enter Tryd.func72, Tryd.ntmps72
    go_wp2_with fail
    go_quiet (fail)
    go_wp2
    go_ret
    exact ⟨_, by rw [sp_one (by decide)]; rfl, rfl, (Gr.refl w).drewN _⟩
  | succ k ih =>
    intro u w hk hu
    have ih' := Lib.hid ih
    clear ih
    have hd16 : u % 16 < 16 := Nat.mod_lt _ (by decide)
    have hrem : (u : Int) % 16 = ((u % 16 : Nat) : Int) := rfl
    obtain ⟨d, hd⟩ : ∃ d, d = u % 16 := ⟨_, rfl⟩
    rw [← hd] at hrem hd16
    have Hd := Lib.hid hd
    have HC := Lib.hid (cut16 d (by omega))
    have hcs : (digs16.extract d (d + 1)).size ≤ 16 := by simp [digs16]; omega
    unfold digs16 at hcs
    clear hd
    by_cases h : u < 16
    · have HS : Hid (sp 16 u = [digC d]) := Lib.hid (by rw [sp_one h, Hd.out, Nat.mod_eq_of_lt h])
      go_enter Tryd.func72, Tryd.ntmps72
      go_wp2_with fail
      go_quiet (fail)
      go_wp2
      go_ret
      exact ⟨_, by rw [HS.out]; exact HC.out, rfl, (Gr.refl w).drewN _⟩
    · have HS : Hid (sp 16 u = sp 16 (u / 16) ++ [digC d]) := Lib.hid (by rw [sp_more h (by decide), Hd.out])
      have HI : Hid (∀ w, Calls Tryd.prog 72 #[.int .i64 ((u : Int) / 16), .int .i64 16] w (WriPost (sp 16 (u / 16)) w)) := Lib.hid fun w => ih'.out (u / 16) w (by omega) (by omega)
      clear ih'
      go_enter Tryd.func72, Tryd.ntmps72
      go_wp2_with fail
      go_quiet (fail)
      go_wp2_with fail
      refine (HI.out _).mono ?_
      rintro e w1 ⟨r, hr, rfl, hg⟩
      have hrs := sp_size (by decide) (by omega) hr
      have Hr := Lib.hid hr
      clear hr
      go_wp2
      go_ret
      exact ⟨_, by rw [HS.out, app_data, Hr.out, ← HC.out]; rfl, rfl, ((Gr.refl w).drewN _).trans hg⟩
end Go.Proofs.YthdchkjipafmfaaDoor
