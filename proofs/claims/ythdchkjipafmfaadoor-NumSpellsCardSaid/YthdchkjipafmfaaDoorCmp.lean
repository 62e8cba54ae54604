/- Comparing numbers and texts: contracts, and the walks of NumCompares and NumOrders. -/
import Derived.Test.YthdchkjipafmfaaDoorKnown
import Derived.Test.YthdchkjipafmfaaDoorShelf
namespace Go.Proofs.YthdchkjipafmfaaDoor
open Go.RowKit Go.Shelf

theorem cmp_val (a b : Int) : Lib.compareInt a b = if a < b then -1 else if b < a then 1 else 0 := by
  unfold Lib.compareInt; rfl
theorem compare_any (a b c : Int) (hc : Lib.compareInt a b = c) (w : World) : Calls Tryd.prog 30 #[.int .i64 a, .int .i64 b] w fun e w' => e = .returned (.int .i64 c) ∧ w = w' := by
  have h := (Any.cmp_Compare_int Tryd.lays122 a b w)
  change Calls Tryd.prog 63 _ _ _ at h
  rw [hc] at h
  have H := Lib.hid h
  clear h hc
  go_enter Tryd.func30, Tryd.ntmps30
  go_wp2_with fail
  refine H.out.mono ?_
  rintro e w' ⟨rfl, rfl⟩
  go_wp2
  go_ret
  exact ⟨rfl, rfl⟩
theorem refCompare_any (a b c : Int) (hc : Lib.compareInt a b = c) (w : World) : Calls Tryd.prog 31 #[.int .i64 a, .int .i64 b] w fun e w' => e = .returned (.int .i64 c) ∧ w = w' := by
  have Hc := Lib.hid hc
  clear hc
  go_enter Tryd.func31, Tryd.ntmps31
  go_wp2
  all_goals (go_ret; exact ⟨by rw [← Hc.out, cmp_val]; first | rw [if_pos (by omega)]; rfl | (rw [if_neg (by omega), if_pos (by omega)]; rfl) | (rw [if_neg (by omega), if_neg (by omega)]; rfl), rfl⟩)
theorem cmp3 (a b : Int) : ∃ c, Lib.compareInt a b = c ∧ Lib.compareInt b a = -c ∧ (c = -1 ∨ c = 0 ∨ c = 1) := by
  refine ⟨_, rfl, ?_, ?_⟩ <;> simp only [cmp_val] <;> split <;> (try split) <;> (try split) <;> omega
theorem law_compares (a b : Int) (_ha : -9223372036854775808 ≤ a ∧ a ≤ 9223372036854775807) (_hb : -9223372036854775808 ≤ b ∧ b ≤ 9223372036854775807) (w : World) :
    Calls Tryd.prog 7 #[.int .i64 a, .int .i64 b] w fun e w' => e = .returned (.bool true) ∧ Gr w w' := by
  obtain ⟨c, h1, h2, h3⟩ := cmp3 a b
  have H1 := Lib.hid h1
  have H2 := Lib.hid h2
  clear h1 h2
  rcases h3 with rfl | rfl | rfl
  all_goals
    go_enter Tryd.func7, Tryd.ntmps7
    go_wp2_with fail
    refine (compare_any _ _ _ H1.out _).mono ?_
    rintro e w' ⟨rfl, rfl⟩
    go_wp2_with fail
    refine (refCompare_any _ _ _ H1.out _).mono ?_
    rintro e w' ⟨rfl, rfl⟩
    go_wp2_with fail
    refine (compare_any _ _ _ H2.out _).mono ?_
    rintro e w' ⟨rfl, rfl⟩
    go_wp2_with fail
    refine (compare_any _ _ _ H1.out _).mono ?_
    rintro e w' ⟨rfl, rfl⟩
    go_wp2_with fail
    refine (known_any _).mono ?_
    rintro e w' ⟨rfl, hg⟩
    go_wp2
    go_ret
    exact ⟨rfl, hg⟩
end Go.Proofs.YthdchkjipafmfaaDoor
