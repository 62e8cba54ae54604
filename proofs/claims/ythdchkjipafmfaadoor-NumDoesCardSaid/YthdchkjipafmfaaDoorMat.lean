/- Plain mathematics of operations: products, powers, bits. Integers alone, no program. -/
import Derived.Test.YthdchkjipafmfaaDoorQuo
import Derived.Laws.BitsAllLaws
namespace Go.Proofs.YthdchkjipafmfaaDoor

def big (n : Int) : Prop := 9007199254740992 < (n.natAbs : Int)
instance (n : Int) : Decidable (big n) := by unfold big; infer_instance
/-- a product, or MaxNum + 1 -/
def prodZ (a b : Int) : Int := if big (a * b) then 9007199254740993 else a * b
def powZ (a : Int) (k : Nat) : Int := if big (a ^ k) then 9007199254740993 else a ^ k

/-- too great, as both sides ask -/
theorem big_iff {A B M : Nat} (hA : 0 < A) : M / A < B ↔ M < A * B := by
  rw [Nat.div_lt_iff_lt_mul hA, Nat.mul_comm]
theorem prod_big {a b : Int} (ha : ¬ a = 0) (h : (9007199254740992 : Int) / (a.natAbs : Int) < (b.natAbs : Int)) : big (a * b) := by
  have h1 : 9007199254740992 / a.natAbs < b.natAbs := by
    have : (9007199254740992 : Int) / (a.natAbs : Int) = ((9007199254740992 / a.natAbs : Nat) : Int) := by simp
    rw [this] at h; omega
  have := (big_iff (by omega)).1 h1
  unfold big; rw [Int.natAbs_mul]; omega
theorem prod_small {a b : Int} (ha : ¬ a = 0) (h : ¬ (9007199254740992 : Int) / (a.natAbs : Int) < (b.natAbs : Int)) : ¬ big (a * b) := by
  have h1 : ¬ 9007199254740992 / a.natAbs < b.natAbs := by
    have : (9007199254740992 : Int) / (a.natAbs : Int) = ((9007199254740992 / a.natAbs : Nat) : Int) := by simp
    rw [this] at h; omega
  rw [big_iff (by omega)] at h1
  unfold big; rw [Int.natAbs_mul]; omega
theorem small_bd {n : Int} (h : ¬ big n) : -9007199254740992 ≤ n ∧ n ≤ 9007199254740992 := by unfold big at h; omega
theorem big_of {n : Int} (h : ¬ (-9007199254740992 ≤ n ∧ n ≤ 9007199254740992)) : big n := by unfold big; omega
theorem powZ_zero (a : Int) : powZ a 0 = 1 := by simp [powZ, big]
/-- one round of a power -/
theorem powZ_succ (a : Int) (k : Nat) : powZ a (k + 1) = prodZ (a ^ k) a := by
  unfold powZ prodZ; rw [Int.pow_succ]
/-- a power that is beyond stays so -/
theorem powZ_beyond {a : Int} {k m : Nat} (h : big (a ^ k)) (hk : k ≤ m) (ha : a ≠ 0) : powZ a m = 9007199254740993 := by
  unfold powZ
  rw [if_pos]
  unfold big at h ⊢
  rw [Int.natAbs_pow] at h ⊢
  have : a.natAbs ^ k ≤ a.natAbs ^ m := Nat.pow_le_pow_right (by omega) hk
  omega
theorem pow_zero' {k : Nat} (h : 0 < k) : (0 : Int) ^ k = 0 := Int.zero_pow (by omega)
theorem powZ_0 {k : Nat} (h : 0 < k) : powZ 0 k = 0 := by unfold powZ; rw [pow_zero' h]; simp [big]
theorem powZ_1 (k : Nat) : powZ 1 k = 1 := by unfold powZ; rw [Int.one_pow]; simp [big]
theorem neg1_pow (k : Nat) : (-1 : Int) ^ k = 1 - 2 * ((k % 2 : Nat) : Int) := by
  induction k with
  | zero => rfl
  | succ k ih => rw [Int.pow_succ, ih]; omega
theorem powZ_neg1 (k : Nat) : powZ (-1) k = 1 - 2 * ((k % 2 : Nat) : Int) := by
  unfold powZ; rw [neg1_pow, if_neg]; unfold big; omega
/-- a small base's power hangs on the exponent's parity alone -/
theorem powZ_par {a : Int} {k : Nat} (ha : a.natAbs ≤ 1) (hk : 2 < k) : powZ a (2 - k % 2) = powZ a k := by
  obtain h | h | h : a = 0 ∨ a = 1 ∨ a = -1 := by omega
  · subst h; rw [powZ_0 (by omega), powZ_0 (by omega)]
  · subst h; rw [powZ_1, powZ_1]
  · subst h; rw [powZ_neg1, powZ_neg1]; congr 2; omega

/-! ### bits -/
theorem wrap_small54 (n : Nat) (h : n < 18014398509481984) : IntKind.i64.wrap (n : Int) = n := by
  simp [IntKind.wrap, IntKind.bits, IntKind.signed]; omega
theorem ofInt64 (a : Nat) (ha : a < 18014398509481984) : (BitVec.ofInt 64 (a : Int)).toNat = a := by
  rw [BitVec.ofInt_natCast, BitVec.toNat_ofNat]; exact Nat.mod_eq_of_lt (by omega)
theorem i64_and (a b : Nat) (ha : a < 18014398509481984) (hb : b < 18014398509481984) : bits .and .i64 (a : Int) (b : Int) = ((a &&& b : Nat) : Int) := by
  have hx : a &&& b < 2 ^ 54 := Nat.and_lt_two_pow _ (by omega)
  show IntKind.i64.wrap ((BitVec.ofInt 64 (a : Int) &&& BitVec.ofInt 64 (b : Int)).toNat : Int) = _
  rw [BitVec.toNat_and, ofInt64 a ha, ofInt64 b hb, wrap_small54 _ (by omega)]
theorem i64_or (a b : Nat) (ha : a < 18014398509481984) (hb : b < 18014398509481984) : bits .or .i64 (a : Int) (b : Int) = ((a ||| b : Nat) : Int) := by
  have hx : a ||| b < 2 ^ 54 := Nat.or_lt_two_pow (by omega) (by omega)
  show IntKind.i64.wrap ((BitVec.ofInt 64 (a : Int) ||| BitVec.ofInt 64 (b : Int)).toNat : Int) = _
  rw [BitVec.toNat_or, ofInt64 a ha, ofInt64 b hb, wrap_small54 _ (by omega)]
theorem i64_xor (a b : Nat) (ha : a < 18014398509481984) (hb : b < 18014398509481984) : bits .xor .i64 (a : Int) (b : Int) = ((a ^^^ b : Nat) : Int) := by
  have hx : a ^^^ b < 2 ^ 54 := Nat.xor_lt_two_pow (by omega) (by omega)
  show IntKind.i64.wrap ((BitVec.ofInt 64 (a : Int) ^^^ BitVec.ofInt 64 (b : Int)).toNat : Int) = _
  rw [BitVec.toNat_xor, ofInt64 a ha, ofInt64 b hb, wrap_small54 _ (by omega)]
theorem mod_step (x k : Nat) : x % 2 ^ (k + 1) = x % 2 ^ k + (x / 2 ^ k % 2) * 2 ^ k := by
  rw [Nat.pow_succ, Nat.mod_mul, Nat.mul_comm (2 ^ k)]
theorem bit_and (a b k : Nat) : (a &&& b) / 2 ^ k % 2 = if a / 2 ^ k % 2 + b / 2 ^ k % 2 = 2 then 1 else 0 := by
  have := Nat.testBit_and a b k
  simp only [Nat.testBit_eq_decide_div_mod_eq] at this
  have h1 := Nat.mod_two_eq_zero_or_one (a / 2 ^ k)
  have h2 := Nat.mod_two_eq_zero_or_one (b / 2 ^ k)
  have h3 := Nat.mod_two_eq_zero_or_one ((a &&& b) / 2 ^ k)
  rcases h1 with h1 | h1 <;> rcases h2 with h2 | h2 <;> rcases h3 with h3 | h3 <;> simp_all
theorem bit_or (a b k : Nat) : (a ||| b) / 2 ^ k % 2 = if 0 < a / 2 ^ k % 2 + b / 2 ^ k % 2 then 1 else 0 := by
  have := Nat.testBit_or a b k
  simp only [Nat.testBit_eq_decide_div_mod_eq] at this
  have h1 := Nat.mod_two_eq_zero_or_one (a / 2 ^ k)
  have h2 := Nat.mod_two_eq_zero_or_one (b / 2 ^ k)
  have h3 := Nat.mod_two_eq_zero_or_one ((a ||| b) / 2 ^ k)
  rcases h1 with h1 | h1 <;> rcases h2 with h2 | h2 <;> rcases h3 with h3 | h3 <;> simp_all
theorem bit_xor (a b k : Nat) : (a ^^^ b) / 2 ^ k % 2 = if a / 2 ^ k % 2 + b / 2 ^ k % 2 = 1 then 1 else 0 := by
  have := Nat.testBit_xor a b k
  simp only [Nat.testBit_eq_decide_div_mod_eq] at this
  have h1 := Nat.mod_two_eq_zero_or_one (a / 2 ^ k)
  have h2 := Nat.mod_two_eq_zero_or_one (b / 2 ^ k)
  have h3 := Nat.mod_two_eq_zero_or_one ((a ^^^ b) / 2 ^ k)
  rcases h1 with h1 | h1 <;> rcases h2 with h2 | h2 <;> rcases h3 with h3 | h3 <;> simp_all
end Go.Proofs.YthdchkjipafmfaaDoor
