/- Texts as characters: the plain functions. Names no function of the program. -/
import Derived.Test.YtaoehbnjipegoaaDoorCore
namespace Go.Proofs.YtaoehbnjipegoaaDoor
/-- characters -/
def isCh (c : Int) : Bool := decide (0 ≤ c) && decide (c ≤ 1114111) && !(decide (55296 ≤ c) && decide (c ≤ 57343))
/-- how many bytes, what the first one says, and the least character -/
def leadN (b : Int) : Nat := if 192 ≤ b ∧ b < 224 then 2 else if 224 ≤ b ∧ b < 240 then 3 else if 240 ≤ b ∧ b < 248 then 4 else 0
def leadC (b : Int) : Int := if 192 ≤ b ∧ b < 224 then b - 192 else if 224 ≤ b ∧ b < 240 then b - 224 else if 240 ≤ b ∧ b < 248 then b - 240 else 0
def leadM (b : Int) : Int := if 192 ≤ b ∧ b < 224 then 128 else if 224 ≤ b ∧ b < 240 then 2048 else if 240 ≤ b ∧ b < 248 then 65536 else 0
theorem lead_cases (b : Int) : (192 ≤ b ∧ b < 224 ∧ leadN b = 2 ∧ leadC b = b - 192 ∧ leadM b = 128) ∨ (224 ≤ b ∧ b < 240 ∧ leadN b = 3 ∧ leadC b = b - 224 ∧ leadM b = 2048) ∨
    (240 ≤ b ∧ b < 248 ∧ leadN b = 4 ∧ leadC b = b - 240 ∧ leadM b = 65536) ∨ (b < 192 ∧ leadN b = 0) ∨ (248 ≤ b ∧ leadN b = 0) := by
  unfold leadN leadC leadM
  by_cases h1 : 192 ≤ b ∧ b < 224
  · exact .inl ⟨h1.1, h1.2, if_pos h1, if_pos h1, if_pos h1⟩
  simp only [if_neg h1]
  by_cases h2 : 224 ≤ b ∧ b < 240
  · exact .inr (.inl ⟨h2.1, h2.2, if_pos h2, if_pos h2, if_pos h2⟩)
  simp only [if_neg h2]
  by_cases h3 : 240 ≤ b ∧ b < 248
  · exact .inr (.inr (.inl ⟨h3.1, h3.2, if_pos h3, if_pos h3, if_pos h3⟩))
  simp only [if_neg h3]
  by_cases h4 : b < 192
  · exact .inr (.inr (.inr (.inl ⟨h4, trivial⟩)))
  · exact .inr (.inr (.inr (.inr ⟨by omega, trivial⟩)))
/-- a byte that goes on -/
def goesB (x : Int) : Bool := decide (128 ≤ x) && decide (x < 192)
def cont : List UInt8 → Int → Option Int
  | [], c => some c
  | x :: r, c => if goesB (x.toNat : Int) = true then cont r (c * 64 + (x.toNat : Int) - 128) else none
theorem cont_on {x : UInt8} {r : List UInt8} {c : Int} (h : goesB (x.toNat : Int) = true) : cont (x :: r) c = cont r (c * 64 + (x.toNat : Int) - 128) := by rw [cont, if_pos h]
theorem cont_no {x : UInt8} {r : List UInt8} {c : Int} (h : goesB (x.toNat : Int) = false) : cont (x :: r) c = none := by rw [cont, if_neg (by rw [h]; decide)]
/-- the character that bytes make, if they are enough and right -/
def made (n : Nat) (least : Int) : Option Int → Int × Nat
  | none => (0, 0)
  | some c => if c < least ∨ isCh c = false then (0, 0) else (c, n)
/-- the first character of a text that is not empty, and how many bytes it has; (0, 0): none -/
def firstC (b : Int) (r : List UInt8) : Int × Nat := if b < 128 then (b, 1) else if leadN b = 0 ∨ r.length + 1 < leadN b then (0, 0) else made (leadN b) (leadM b) (cont (r.take (leadN b - 1)) (leadC b))
def firstL (l : List UInt8) : Int × Nat := match l with
  | [] => (0, 0)
  | b :: r => firstC b.toNat r
theorem firstL_cons (b : UInt8) (r : List UInt8) : firstL (b :: r) = firstC b.toNat r := rfl
theorem made_le (n : Nat) (m : Int) (o : Option Int) : (made n m o).2 = 0 ∨ (made n m o).2 = n := by
  unfold made
  split
  · exact .inl rfl
  · split
    · exact .inl rfl
    · exact .inr rfl
theorem firstC_one {b : Int} {r : List UInt8} (h : b < 128) : firstC b r = (b, 1) := by unfold firstC; rw [if_pos h]
theorem firstC_no {b : Int} {r : List UInt8} (h : ¬ b < 128) (hn : leadN b = 0 ∨ r.length + 1 < leadN b) : firstC b r = (0, 0) := by unfold firstC; rw [if_neg h, if_pos hn]
theorem firstC_made {b : Int} {r : List UInt8} (h : ¬ b < 128) (hn : ¬ (leadN b = 0 ∨ r.length + 1 < leadN b)) : firstC b r = made (leadN b) (leadM b) (cont (r.take (leadN b - 1)) (leadC b)) := by
  unfold firstC; rw [if_neg h, if_neg hn]
theorem firstC_len (b : Int) (r : List UInt8) : (firstC b r).2 ≤ r.length + 1 := by
  by_cases h : b < 128
  · rw [firstC_one h]; simp
  · by_cases hn : leadN b = 0 ∨ r.length + 1 < leadN b
    · rw [firstC_no h hn]; simp
    · rw [firstC_made h hn]
      rcases made_le (leadN b) (leadM b) (cont (r.take (leadN b - 1)) (leadC b)) with e | e
      · rw [e]; omega
      · rw [e]; omega
theorem firstL_len (l : List UInt8) : (firstL l).2 ≤ l.length := by
  cases l with
  | nil => exact Nat.le_refl _
  | cons b r => rw [firstL_cons]; exact firstC_len _ _
/-- how many bytes are valid, and whether all are -/
def validL (l : List UInt8) : Nat × Bool :=
  if _h : l = [] then (0, true) else if _hn : (firstL l).2 = 0 then (0, false) else ((firstL l).2 + (validL (l.drop (firstL l).2)).1, (validL (l.drop (firstL l).2)).2)
termination_by l.length
decreasing_by all_goals (rw [List.length_drop]; have := List.length_pos_iff.2 _h; omega)
/-- the characters -/
def runesL (l : List UInt8) : List Int :=
  if _h : l = [] then [] else if _hn : (firstL l).2 = 0 then [] else (firstL l).1 :: runesL (l.drop (firstL l).2)
termination_by l.length
decreasing_by rw [List.length_drop]; have := List.length_pos_iff.2 _h; omega
theorem validL_nil : validL [] = (0, true) := by rw [validL, dif_pos rfl]
theorem validL_no {l : List UInt8} (h : l ≠ []) (hn : (firstL l).2 = 0) : validL l = (0, false) := by rw [validL, dif_neg h, dif_pos hn]
theorem validL_on {l : List UInt8} (h : l ≠ []) (hn : (firstL l).2 ≠ 0) : validL l = ((firstL l).2 + (validL (l.drop (firstL l).2)).1, (validL (l.drop (firstL l).2)).2) := by
  rw [validL, dif_neg h, dif_neg hn]
theorem runesL_nil : runesL [] = [] := by rw [runesL, dif_pos rfl]
theorem runesL_no {l : List UInt8} (h : l ≠ []) (hn : (firstL l).2 = 0) : runesL l = [] := by rw [runesL, dif_neg h, dif_pos hn]
theorem runesL_on {l : List UInt8} (h : l ≠ []) (hn : (firstL l).2 ≠ 0) : runesL l = (firstL l).1 :: runesL (l.drop (firstL l).2) := by rw [runesL, dif_neg h, dif_neg hn]
theorem runesL_len (l : List UInt8) : (runesL l).length ≤ l.length := by
  induction hk : l.length using Nat.strongRecOn generalizing l with
  | ind k ih =>
    by_cases h : l = []
    · rw [h, runesL_nil]; simp
    · by_cases hn : (firstL l).2 = 0
      · rw [runesL_no h hn]; simp
      · have hp := List.length_pos_iff.2 h
        have hle := firstL_len l
        have := ih (l.drop (firstL l).2).length (by rw [List.length_drop]; omega) _ rfl
        rw [runesL_on h hn, List.length_cons, ← hk]
        rw [List.length_drop] at this
        omega
end Go.Proofs.YtaoehbnjipegoaaDoor
