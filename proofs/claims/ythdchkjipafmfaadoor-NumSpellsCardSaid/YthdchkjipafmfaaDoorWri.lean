/- The reference's Written: decimal texts of numbers. -/
import Derived.Test.YthdchkjipafmfaaDoorRef2
import Derived.Lib.ItoaMem
import Derived.Lib.ItoaLen
namespace Go.Proofs.YthdchkjipafmfaaDoor
open Go.RowKit

def WriPost (l : List UInt8) (w : World) (e : Ending) (w' : World) : Prop := ∃ r : ByteArray, r.data.toList = l ∧ e = .returned (.string r) ∧ Gr w w'
theorem dec_one {u : Nat} (h : u < 10) : Lib.decDigits u = [UInt8.ofNat (48 + u)] := by rw [Lib.decDigits, dif_pos h]
theorem dec_more {u : Nat} (h : ¬ u < 10) : Lib.decDigits u = Lib.decDigits (u / 10) ++ [UInt8.ofNat (48 + u % 10)] := by rw [Lib.decDigits, dif_neg h]
theorem enc_ascii (n : Int) (h0 : 0 ≤ n) (h1 : n < 128) : (Utf8.encode n).data.toList = [UInt8.ofNat n.toNat] := by
  have hv : Utf8.valid n = true := by simp [Utf8.valid]; omega
  unfold Utf8.encode
  simp only [hv, if_true]
  rw [if_pos (by omega)]
theorem enc_size (n : Int) (h0 : 0 ≤ n) (h1 : n < 128) : (Utf8.encode n).size ≤ 1 := by
  have := congrArg List.length (enc_ascii n h0 h1)
  rw [sizeL] at this
  simp at this; omega
theorem dec_size {r : ByteArray} {u : Nat} (h : r.data.toList = Lib.decDigits u) (hu : u ≤ 9007199254740992) : r.size ≤ 20 := by
  have := congrArg List.length h
  rw [sizeL, Lib.decDigits_length] at this
  have := Lib.nDigits_le20 u (by omega)
  omega
theorem app_data (a b : ByteArray) : (a ++ b).data.toList = a.data.toList ++ b.data.toList := by simp
theorem written_nn (k : Nat) : ∀ (u : Nat) (w : World), u ≤ k → u ≤ 9007199254740992 → Calls Tryd.prog 52 #[.int .i64 (u : Int)] w (WriPost (Lib.decDigits u) w) := by
  induction k with
  | zero =>
    intro u w hk h1
    obtain rfl : u = 0 := by omega
    go_enter Tryd.func52, Tryd.ntmps52
    go_wp2_with fail
    go_ret
    exact ⟨_, (enc_ascii 48 (by omega) (by omega)).trans (dec_one (u := 0) (by omega)).symm, rfl, Gr.refl w⟩
  | succ k ih =>
    intro u w hk h1
    by_cases h : u < 10
    · go_enter Tryd.func52, Tryd.ntmps52
      go_wp2_with fail
      go_ret
      exact ⟨_, (enc_ascii (48 + (u : Int)) (by omega) (by omega)).trans (by rw [dec_one h]; congr 2), rfl, Gr.refl w⟩
    · have ih' := Lib.hid ih
      clear ih
      go_enter Tryd.func52, Tryd.ntmps52
      go_wp2_with fail
      refine (ih'.out (u / 10) w (by omega) (by omega)).mono ?_
      rintro e w1 ⟨r, hr, rfl, hg⟩
      have Hr := Lib.hid hr
      have s1 := dec_size hr (by omega)
      have s2 := enc_size (48 + (u : Int) % 10) (by omega) (by omega)
      clear hr
      go_wp2_with fail
      go_ret
      exact ⟨_, by rw [app_data, Hr.out, enc_ascii _ (by omega) (by omega), dec_more h]; congr 3, rfl, hg⟩
theorem written_any (n : Int) (h : -9007199254740992 ≤ n ∧ n ≤ 9007199254740992) (w : World) : Calls Tryd.prog 52 #[.int .i64 n] w (WriPost (Lib.itoa n) w) := by
  by_cases hn : n < 0
  · obtain ⟨u, rfl⟩ : ∃ u : Nat, n = -(u : Int) := ⟨(-n).toNat, by omega⟩
    go_enter Tryd.func52, Tryd.ntmps52
    go_wp2_with fail
    refine (written_nn u u w (Nat.le_refl _) (by omega)).mono ?_
    rintro e w1 ⟨r, hr, rfl, hg⟩
    have Hr := Lib.hid hr
    have s1 := dec_size hr (by omega)
    clear hr
    go_wp2_with fail
    go_ret
    exact ⟨_, by rw [app_data, Hr.out, Lib.itoa_neg u (by omega)]; rfl, rfl, hg⟩
  · obtain ⟨u, rfl⟩ : ∃ u : Nat, n = (u : Int) := ⟨n.toNat, by omega⟩
    rw [Lib.itoa_nonneg]
    exact written_nn u u w (Nat.le_refl _) (by omega)
end Go.Proofs.YthdchkjipafmfaaDoor
