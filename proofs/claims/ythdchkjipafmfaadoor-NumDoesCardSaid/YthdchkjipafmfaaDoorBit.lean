/- Operations bit by bit: the reference's loop is Go's own operator. -/
import Derived.Test.YthdchkjipafmfaaDoorComp
import Derived.Deep.QuietTactic
import Derived.BigQuiet
namespace Go.Proofs.YthdchkjipafmfaaDoor
open Go.RowKit

theorem Gr.drewM {a b : World} (h : Gr a b) (n : Nat) : Gr a (b.drewN n) := by
  have h' : Below a.heap.size a b := h
  exact ⟨h'.os, h'.tape, h'.output, h'.size, h'.block⟩
theorem div_bd (a p : Nat) (ha : a ≤ 9007199254740992) : 0 ≤ (a : Int) / (p : Int) ∧ (a : Int) / (p : Int) ≤ 9007199254740992 := by
  have h : (a : Int) / (p : Int) = ((a / p : Nat) : Int) := by simp
  have h2 := Nat.le_trans (Nat.div_le_self a p) ha
  rw [h]
  exact ⟨Int.natCast_nonneg _, Int.ofNat_le.2 h2⟩
theorem add_lt' {x k : Nat} (hk : k ≤ 54) (h : x < 2 ^ k) : x < 18014398509481984 := Nat.lt_of_lt_of_le h (Nat.le_trans (Nat.pow_le_pow_right (by omega) hk) (by decide))
theorem two_le {k : Nat} (hk : k ≤ 53) : 2 ^ k ≤ 9007199254740992 := Nat.le_trans (Nat.pow_le_pow_right (by omega) hk) (by decide)
theorem two_le54 {k : Nat} (hk : k ≤ 54) : 2 ^ k ≤ 18014398509481984 := Nat.le_trans (Nat.pow_le_pow_right (by omega) hk) (by decide)
theorem bit_cast (a b k p : Nat) (h : p = 2 ^ k) : ((a : Int) / (p : Int) % 2 + (b : Int) / (p : Int) % 2) = ((a / 2 ^ k % 2 + b / 2 ^ k % 2 : Nat) : Int) := by
  subst h; simp

theorem refAnd_step {a b k p : Nat} (h : p = 2 ^ k) : ((a &&& b) % 2 ^ (k + 1) : Nat) = (a &&& b) % 2 ^ k + (if ((a : Int) / (p : Int) % 2 + (b : Int) / (p : Int) % 2 == 2) = true then p else 0) := by
  rw [mod_step, bit_and]
  have e := bit_cast a b k p h
  generalize a / 2 ^ k % 2 + b / 2 ^ k % 2 = x at *
  rw [e]
  subst h
  by_cases hx : x = 2 <;> first | (simp [hx]; done) | (simp [hx]; omega)
set_option maxHeartbeats 800000 in
theorem refAnd_any (a b : Nat) (ha : a ≤ 9007199254740992) (hb : b ≤ 9007199254740992) (w : World) : Calls Tryd.prog 60 #[.int .i64 6, .int .i64 (a : Int), .int .i64 (b : Int)] w fun e w' => e = .returned (.int .i64 ((a &&& b : Nat) : Int)) ∧ Gr w w' := by
  have hf : a &&& b < 2 ^ 54 := Nat.and_lt_two_pow _ (by omega)
  obtain ⟨f, hfe⟩ : ∃ f : Nat, f = a &&& b := ⟨_, rfl⟩
  have Hf := Lib.hid hfe
  have Hlt : Hid (f < 2 ^ 54) := Lib.hid (by rw [hfe]; exact hf)
  clear hf hfe
  go_enter Tryd.func60, Tryd.ntmps60
  go_wp2_with fail
  go_loopw [7, 8] (fun n q wr => ∃ k p m : Nat, k ≤ 54 ∧ 1 ≤ p ∧ p ≤ 18014398509481984 ∧ q = .int .i64 p ∧ Hid (p = 2 ^ k) ∧ m < p ∧ n = .int .i64 m ∧ Hid (m = f % 2 ^ k) ∧ Gr w wr) (fun _ q _ => 36028797018963968 - (intOf q).toNat)
  case atStart => exact ⟨0, 1, 0, by omega, by omega, by omega, rfl, Lib.hid rfl, by omega, rfl, Lib.hid (by omega), Gr.refl w⟩
  case round =>
    obtain ⟨k, p, m, hk, hp1, hp2, rfl, Hp, hm, rfl, Hm, hg⟩ := hrel
    by_cases hk53 : k ≤ 53
    · have hp53 : p ≤ 9007199254740992 := by rw [Hp.out]; exact two_le hk53
      obtain ⟨q0, q1⟩ := div_bd a p ha
      obtain ⟨r0, r1⟩ := div_bd b p hb
      have Hst := Lib.hid (refAnd_step (a := a) (b := b) Hp.out)
      rw [← Hf.out, ← Hm.out] at Hst
      have Hp' : Hid (p * 2 = 2 ^ (k + 1)) := Lib.hid (by rw [Nat.pow_succ, Hp.out])
      cases hc : ((a : Int) / (p : Int) % 2 + (b : Int) / (p : Int) % 2 == 2)
      · have Hs : Hid (f % 2 ^ (k + 1) = m) := Lib.hid (by have := Hst.out; rw [hc] at this; simpa using this)
        clear Hst
        go_wp2_with fail
        go_quiet (fail)
        go_wp2
        go_roundw
        case rel => exact ⟨k + 1, p * 2, m, by omega, by omega, by omega, by go_num, Hp', by omega, rfl, Lib.hid Hs.out.symm, hg.drewM _⟩
        case measure => simp [intOf]; omega
      · have Hs : Hid (f % 2 ^ (k + 1) = m + p) := Lib.hid (by have := Hst.out; rw [hc] at this; simpa using this)
        clear Hst
        go_wp2_with fail
        go_quiet (fail)
        go_wp2
        go_roundw
        case rel => exact ⟨k + 1, p * 2, m + p, by omega, by omega, by omega, by go_num, Hp', by omega, by go_num, Lib.hid Hs.out.symm, hg.drewM _⟩
        case measure => simp [intOf]; omega
    · obtain rfl : k = 54 := by omega
      have hp54 : ¬ p ≤ 9007199254740992 := by rw [Hp.out]; decide
      have Hv : Hid (m = a &&& b) := Lib.hid (by rw [Hm.out, Nat.mod_eq_of_lt Hlt.out, Hf.out])
      go_wp2
      go_ret
      exact ⟨by rw [← Hv.out]; rfl, hg⟩

theorem refOr_step {a b k p : Nat} (h : p = 2 ^ k) : ((a ||| b) % 2 ^ (k + 1) : Nat) = (a ||| b) % 2 ^ k + (if decide (0 < (a : Int) / (p : Int) % 2 + (b : Int) / (p : Int) % 2) = true then p else 0) := by
  rw [mod_step, bit_or]
  have e := bit_cast a b k p h
  generalize a / 2 ^ k % 2 + b / 2 ^ k % 2 = x at *
  rw [e]
  subst h
  by_cases hx : 0 < x <;> first | (simp [hx]; done) | (simp [hx]; omega)
set_option maxHeartbeats 800000 in
theorem refOr_any (a b : Nat) (ha : a ≤ 9007199254740992) (hb : b ≤ 9007199254740992) (w : World) : Calls Tryd.prog 60 #[.int .i64 7, .int .i64 (a : Int), .int .i64 (b : Int)] w fun e w' => e = .returned (.int .i64 ((a ||| b : Nat) : Int)) ∧ Gr w w' := by
  have hf : a ||| b < 2 ^ 54 := Nat.or_lt_two_pow (by omega) (by omega)
  obtain ⟨f, hfe⟩ : ∃ f : Nat, f = a ||| b := ⟨_, rfl⟩
  have Hf := Lib.hid hfe
  have Hlt : Hid (f < 2 ^ 54) := Lib.hid (by rw [hfe]; exact hf)
  clear hf hfe
  go_enter Tryd.func60, Tryd.ntmps60
  go_wp2_with fail
  go_loopw [7, 8] (fun n q wr => ∃ k p m : Nat, k ≤ 54 ∧ 1 ≤ p ∧ p ≤ 18014398509481984 ∧ q = .int .i64 p ∧ Hid (p = 2 ^ k) ∧ m < p ∧ n = .int .i64 m ∧ Hid (m = f % 2 ^ k) ∧ Gr w wr) (fun _ q _ => 36028797018963968 - (intOf q).toNat)
  case atStart => exact ⟨0, 1, 0, by omega, by omega, by omega, rfl, Lib.hid rfl, by omega, rfl, Lib.hid (by omega), Gr.refl w⟩
  case round =>
    obtain ⟨k, p, m, hk, hp1, hp2, rfl, Hp, hm, rfl, Hm, hg⟩ := hrel
    by_cases hk53 : k ≤ 53
    · have hp53 : p ≤ 9007199254740992 := by rw [Hp.out]; exact two_le hk53
      obtain ⟨q0, q1⟩ := div_bd a p ha
      obtain ⟨r0, r1⟩ := div_bd b p hb
      have Hst := Lib.hid (refOr_step (a := a) (b := b) Hp.out)
      rw [← Hf.out, ← Hm.out] at Hst
      have Hp' : Hid (p * 2 = 2 ^ (k + 1)) := Lib.hid (by rw [Nat.pow_succ, Hp.out])
      cases hc : decide (0 < (a : Int) / (p : Int) % 2 + (b : Int) / (p : Int) % 2)
      · have Hs : Hid (f % 2 ^ (k + 1) = m) := Lib.hid (by have := Hst.out; rw [hc] at this; simpa using this)
        clear Hst
        go_wp2_with fail
        go_quiet (fail)
        go_wp2
        go_roundw
        case rel => exact ⟨k + 1, p * 2, m, by omega, by omega, by omega, by go_num, Hp', by omega, rfl, Lib.hid Hs.out.symm, hg.drewM _⟩
        case measure => simp [intOf]; omega
      · have Hs : Hid (f % 2 ^ (k + 1) = m + p) := Lib.hid (by have := Hst.out; rw [hc] at this; simpa using this)
        clear Hst
        go_wp2_with fail
        go_quiet (fail)
        go_wp2
        go_roundw
        case rel => exact ⟨k + 1, p * 2, m + p, by omega, by omega, by omega, by go_num, Hp', by omega, by go_num, Lib.hid Hs.out.symm, hg.drewM _⟩
        case measure => simp [intOf]; omega
    · obtain rfl : k = 54 := by omega
      have hp54 : ¬ p ≤ 9007199254740992 := by rw [Hp.out]; decide
      have Hv : Hid (m = a ||| b) := Lib.hid (by rw [Hm.out, Nat.mod_eq_of_lt Hlt.out, Hf.out])
      go_wp2
      go_ret
      exact ⟨by rw [← Hv.out]; rfl, hg⟩

theorem refXor_step {a b k p : Nat} (h : p = 2 ^ k) : ((a ^^^ b) % 2 ^ (k + 1) : Nat) = (a ^^^ b) % 2 ^ k + (if ((a : Int) / (p : Int) % 2 + (b : Int) / (p : Int) % 2 == 1) = true then p else 0) := by
  rw [mod_step, bit_xor]
  have e := bit_cast a b k p h
  generalize a / 2 ^ k % 2 + b / 2 ^ k % 2 = x at *
  rw [e]
  subst h
  by_cases hx : x = 1 <;> first | (simp [hx]; done) | (simp [hx]; omega)
set_option maxHeartbeats 800000 in
theorem refXor_any (a b : Nat) (ha : a ≤ 9007199254740992) (hb : b ≤ 9007199254740992) (w : World) : Calls Tryd.prog 60 #[.int .i64 8, .int .i64 (a : Int), .int .i64 (b : Int)] w fun e w' => e = .returned (.int .i64 ((a ^^^ b : Nat) : Int)) ∧ Gr w w' := by
  have hf : a ^^^ b < 2 ^ 54 := Nat.xor_lt_two_pow (by omega) (by omega)
  obtain ⟨f, hfe⟩ : ∃ f : Nat, f = a ^^^ b := ⟨_, rfl⟩
  have Hf := Lib.hid hfe
  have Hlt : Hid (f < 2 ^ 54) := Lib.hid (by rw [hfe]; exact hf)
  clear hf hfe
  go_enter Tryd.func60, Tryd.ntmps60
  go_wp2_with fail
  go_loopw [7, 8] (fun n q wr => ∃ k p m : Nat, k ≤ 54 ∧ 1 ≤ p ∧ p ≤ 18014398509481984 ∧ q = .int .i64 p ∧ Hid (p = 2 ^ k) ∧ m < p ∧ n = .int .i64 m ∧ Hid (m = f % 2 ^ k) ∧ Gr w wr) (fun _ q _ => 36028797018963968 - (intOf q).toNat)
  case atStart => exact ⟨0, 1, 0, by omega, by omega, by omega, rfl, Lib.hid rfl, by omega, rfl, Lib.hid (by omega), Gr.refl w⟩
  case round =>
    obtain ⟨k, p, m, hk, hp1, hp2, rfl, Hp, hm, rfl, Hm, hg⟩ := hrel
    by_cases hk53 : k ≤ 53
    · have hp53 : p ≤ 9007199254740992 := by rw [Hp.out]; exact two_le hk53
      obtain ⟨q0, q1⟩ := div_bd a p ha
      obtain ⟨r0, r1⟩ := div_bd b p hb
      have Hst := Lib.hid (refXor_step (a := a) (b := b) Hp.out)
      rw [← Hf.out, ← Hm.out] at Hst
      have Hp' : Hid (p * 2 = 2 ^ (k + 1)) := Lib.hid (by rw [Nat.pow_succ, Hp.out])
      cases hc : ((a : Int) / (p : Int) % 2 + (b : Int) / (p : Int) % 2 == 1)
      · have Hs : Hid (f % 2 ^ (k + 1) = m) := Lib.hid (by have := Hst.out; rw [hc] at this; simpa using this)
        clear Hst
        go_wp2_with fail
        go_quiet (fail)
        go_wp2
        go_roundw
        case rel => exact ⟨k + 1, p * 2, m, by omega, by omega, by omega, by go_num, Hp', by omega, rfl, Lib.hid Hs.out.symm, hg.drewM _⟩
        case measure => simp [intOf]; omega
      · have Hs : Hid (f % 2 ^ (k + 1) = m + p) := Lib.hid (by have := Hst.out; rw [hc] at this; simpa using this)
        clear Hst
        go_wp2_with fail
        go_quiet (fail)
        go_wp2
        go_roundw
        case rel => exact ⟨k + 1, p * 2, m + p, by omega, by omega, by omega, by go_num, Hp', by omega, by go_num, Lib.hid Hs.out.symm, hg.drewM _⟩
        case measure => simp [intOf]; omega
    · obtain rfl : k = 54 := by omega
      have hp54 : ¬ p ≤ 9007199254740992 := by rw [Hp.out]; decide
      have Hv : Hid (m = a ^^^ b) := Lib.hid (by rw [Hm.out, Nat.mod_eq_of_lt Hlt.out, Hf.out])
      go_wp2
      go_ret
      exact ⟨by rw [← Hv.out]; rfl, hg⟩
end Go.Proofs.YthdchkjipafmfaaDoor
