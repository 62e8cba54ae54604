/- Spelling a number in a base: the plain function. -/
import Derived.Test.YthdchkjipafmfaaDoorRadx
import Derived.Test.YthdchkjipafmfaaDoorNxtN
namespace Go.Proofs.YthdchkjipafmfaaDoor
open Go.RowKit Go.Shelf
def digC (d : Nat) : UInt8 := if d < 10 then UInt8.ofNat (48 + d) else UInt8.ofNat (87 + d)
/-- the digits of u in a base -/
def sp (base : Nat) (u : Nat) : List UInt8 := if _h : u < base ∨ base < 2 then [digC u] else sp base (u / base) ++ [digC (u % base)]
termination_by u
decreasing_by exact Nat.div_lt_self (by omega) (by omega)
theorem sp_one {base u : Nat} (h : u < base) : sp base u = [digC u] := by rw [sp, dif_pos (.inl h)]
theorem sp_more {base u : Nat} (h : ¬ u < base) (hb : 2 ≤ base) : sp base u = sp base (u / base) ++ [digC (u % base)] := by rw [sp, dif_neg (by omega)]
theorem digC_nat : ∀ d, d < 16 → (digC d).toNat = if d < 10 then 48 + d else 87 + d := by decide
theorem digC_val : ∀ d, d < 16 → digV ((digC d).toNat : Int) = (d : Int) ∧ (((digC d).toNat : Int) == 95) = false := by decide
theorem sp10 (u : Nat) : sp 10 u = Lib.decDigits u := by
  induction u using Nat.strongRecOn with
  | ind u ih =>
    by_cases h : u < 10
    · rw [sp_one h, dec_one h, digC, if_pos h]
    · rw [sp_more h (by decide), dec_more h, ih (u / 10) (by omega), digC, if_pos (Nat.mod_lt _ (by decide))]
theorem sp_ne (base u : Nat) (hb : 2 ≤ base) : ∃ d r, d < base ∧ sp base u = digC d :: r ∧ (0 < u → 0 < d) := by
  induction u using Nat.strongRecOn with
  | ind u ih =>
    by_cases h : u < base
    · exact ⟨u, [], h, sp_one h, id⟩
    · obtain ⟨d, r, h1, h2, h3⟩ := ih (u / base) (Nat.div_lt_self (by omega) (by omega))
      exact ⟨d, r ++ [digC (u % base)], h1, by rw [sp_more h hb, h2]; rfl, fun _ => h3 (Nat.div_pos (by omega) (by omega))⟩
theorem scan_sp (base u : Nat) (hb : 2 ≤ base) (hb' : base ≤ 16) (b : Bool) (r : List UInt8) (hu : u ≤ 9007199254740992) : scan (base : Int) (sp base u ++ r) 0 b = scan (base : Int) r (u : Int) true := by
  induction u using Nat.strongRecOn generalizing r with
  | ind u ih =>
    by_cases h : u < base
    · obtain ⟨e1, e2⟩ := digC_val u (by omega)
      rw [sp_one h, List.cons_append, List.nil_append, scan_on (.inl e2) (by rw [e1]; omega) (by rw [e1]; omega), e1]
      congr 1; omega
    · obtain ⟨e1, e2⟩ := digC_val (u % base) (Nat.lt_of_lt_of_le (Nat.mod_lt _ (by omega)) hb')
      have hd : (((u / base : Nat) : Int) * (base : Int) + ((u % base : Nat) : Int)) = (u : Int) := by
        have := Nat.div_add_mod u base
        rw [Nat.mul_comm] at this
        exact_mod_cast this
      have hm : u % base < base := Nat.mod_lt _ (by omega)
      rw [sp_more h hb, List.append_assoc, ih (u / base) (Nat.div_lt_self (by omega) (by omega)) _ (Nat.le_trans (Nat.div_le_self _ _) hu), List.cons_append, List.nil_append, scan_on (.inl e2) (by rw [e1]; omega) (by rw [e1, hd]; omega), e1, hd]
theorem scan_sp0 (base u : Nat) (hb : 2 ≤ base) (hb' : base ≤ 16) (b : Bool) (hu : u ≤ 9007199254740992) : scan (base : Int) (sp base u) 0 b = some (u : Int) := by
  have := scan_sp base u hb hb' b [] hu
  rwa [List.append_nil] at this
/-- what stands ahead of the digits -/
def pfx (base n : Int) : List UInt8 := if base = 2 then [48, 98] else if base = 16 then [48, 120] else if base = 8 ∧ 0 < n then [48] else []
def baseB (base : Int) : Bool := base == 2 || base == 8 || base == 10 || base == 16
theorem rad_sp (base : Nat) (u : Nat) (hb : baseB base = true) (hu : u ≤ 9007199254740992) : rad (pfx base u ++ sp base u) = some (u : Int) := by
  have hc : base = 2 ∨ base = 8 ∨ base = 10 ∨ base = 16 := by simp [baseB] at hb; omega
  rcases hc with rfl | rfl | rfl | rfl
  · show scan 2 (sp 2 u) 0 false = _
    exact scan_sp0 2 u (by decide) (by decide) false hu
  · obtain ⟨d, r, h1, h2, h3⟩ := sp_ne 8 u (by decide)
    have hd : ∀ d, d < 8 → ¬ digC d = 120 ∧ ¬ digC d = 98 := by decide
    by_cases h0 : 0 < u
    · have : pfx (8 : Nat) u = [48] := by simp [pfx, h0]
      rw [this, h2, List.cons_append, List.nil_append, rad_oct (hd d h1).1 (hd d h1).2, scan_lead, ← h2]
      exact scan_sp0 8 u (by decide) (by decide) true hu
    · obtain rfl : u = 0 := by omega
      rw [sp_one (by decide)]; rfl
  · obtain ⟨d, r, h1, h2, h3⟩ := sp_ne 10 u (by decide)
    have hd : ∀ d, d < 10 → 0 < d → ¬ digC d = 48 := by decide
    by_cases h0 : 0 < u
    · have : pfx (10 : Nat) u = [] := by simp [pfx]
      rw [this, List.nil_append, h2, rad_no (hd d h1 (h3 h0)), ← h2]
      exact scan_sp0 10 u (by decide) (by decide) false hu
    · obtain rfl : u = 0 := by omega
      rw [sp_one (by decide)]; rfl
  · show scan 16 (sp 16 u) 0 false = _
    exact scan_sp0 16 u (by decide) (by decide) false hu
end Go.Proofs.YthdchkjipafmfaaDoor
