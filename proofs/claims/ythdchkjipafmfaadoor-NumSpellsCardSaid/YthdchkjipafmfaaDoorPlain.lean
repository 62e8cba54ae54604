/- Plain mathematics of the texts of numbers: lists of bytes alone, no program. -/
import Derived.Below
import Derived.Lib.SlTrimSet
namespace Go.Proofs.YthdchkjipafmfaaDoor
open Go.RowKit

def isBlk (b : UInt8) : Bool := ([9, 10, 13, 32] : List UInt8).contains b
def isDig (b : UInt8) : Bool := decide (48 ≤ b.toNat) && decide (b.toNat ≤ 57)
def isSgn (b : UInt8) : Bool := b.toNat == 43 || b.toNat == 45

theorem isBlk_iff (b : UInt8) : isBlk b = ((b.toNat : Int) == 9 || (b.toNat : Int) == 10 || (b.toNat : Int) == 13 || (b.toNat : Int) == 32) := by
  have h : ∀ (c : UInt8), (b == c) = ((b.toNat : Int) == (c.toNat : Int)) := fun c => by
    rw [Bool.eq_iff_iff, beq_iff_eq, beq_iff_eq, ← UInt8.toNat_inj]; omega
  simp only [isBlk, List.contains_cons, List.contains_nil, Bool.or_false, h]
  rw [← Bool.or_assoc, ← Bool.or_assoc]; rfl

/-- a beginning that is all p, and behind it nothing or one that is not -/
theorem span_at {p : UInt8 → Bool} {l : List UInt8} {k : Nat} (h : (l.take k).all p = true) (e : ∀ b, l[k]? = some b → p b = false) :
    l.takeWhile p = l.take k ∧ l.dropWhile p = l.drop k := by
  induction l generalizing k with
  | nil => simp
  | cons a r ih =>
    cases k with
    | zero =>
      have := e a (by simp)
      simp [this]
    | succ k =>
      simp only [List.take_succ_cons, List.all_cons, Bool.and_eq_true] at h
      have := ih h.2 (fun b hb => e b (by simpa using hb))
      simp [h.1, this]

theorem all_snoc {p : UInt8 → Bool} {l : List UInt8} {k : Nat} (h : (l.take k).all p = true) {b : UInt8} (hb : l[k]? = some b) (pb : p b = true) : (l.take (k + 1)).all p = true := by
  rw [List.take_add_one, hb, List.all_append, h]; simp [pb]

/-- how many blanks stand at the begin -/
def nb (l : List UInt8) : Nat := (l.takeWhile isBlk).length
/-- what stands behind blanks -/
def unb (l : List UInt8) : List UInt8 := l.dropWhile isBlk
def sgL : List UInt8 → Nat
  | b :: _ => if isSgn b then 1 else 0
  | [] => 0
def negL : List UInt8 → Bool
  | b :: _ => b.toNat == 45
  | [] => false
/-- the sign, what stands behind it -/
def body (l : List UInt8) : List UInt8 := (unb l).drop (sgL (unb l))
def neg (l : List UInt8) : Bool := negL (unb l)
def digs (l : List UInt8) : List UInt8 := (body l).takeWhile isDig
def rest (l : List UInt8) : List UInt8 := (body l).dropWhile isDig
def maxNum : Nat := 9007199254740992
/-- the number of digits, kept at MaxNum -/
def val (l : List UInt8) : Nat := l.foldl (fun n b => min (n * 10 + (b.toNat - 48)) maxNum) 0
def number (l : List UInt8) : Int := if neg l then -(val (digs l) : Int) else (val (digs l) : Int)
def looks (l : List UInt8) : Bool := !(digs l).isEmpty && (rest l).all isBlk

theorem val_snoc (l : List UInt8) (b : UInt8) : val (l ++ [b]) = min (val l * 10 + (b.toNat - 48)) maxNum := by
  simp [val, List.foldl_append]
theorem val_le (l : List UInt8) : val l ≤ maxNum := by
  rcases List.eq_nil_or_concat l with rfl | ⟨l', b, rfl⟩
  · simp [val, maxNum]
  · rw [List.concat_eq_append, val_snoc]; omega
theorem number_bd (l : List UInt8) : -9007199254740992 ≤ number l ∧ number l ≤ 9007199254740992 := by
  have := val_le (digs l)
  unfold maxNum at this
  unfold number; split <;> omega
theorem unb_eq (l : List UInt8) : Lib.trimLeftS l [9, 10, 13, 32] = unb l := rfl
theorem dropWhile_nil {p : UInt8 → Bool} : ∀ {l : List UInt8}, l.dropWhile p = [] ↔ l.all p = true
  | [] => by simp
  | a :: r => by
    rw [List.dropWhile_cons]
    split
    · rename_i h; simp [h, dropWhile_nil (l := r)]
    · rename_i h; simp [h]
theorem all_of_drop {p : UInt8 → Bool} : ∀ {l : List UInt8}, (l.dropWhile p).all p = true → l.dropWhile p = []
  | [], _ => rfl
  | a :: r, h => by
    rw [List.dropWhile_cons] at h ⊢
    split
    · rename_i ha; rw [if_pos ha] at h; exact all_of_drop h
    · rename_i ha; rw [if_neg ha] at h; simp [ha] at h
theorem trim_eq (l : List UInt8) : (Lib.trimS l [9, 10, 13, 32] = []) ↔ l.all isBlk = true := by
  show (l.reverse.dropWhile isBlk).reverse.dropWhile isBlk = [] ↔ _
  rw [dropWhile_nil, List.all_reverse]
  constructor
  · intro h
    have := dropWhile_nil.1 (all_of_drop h)
    rwa [List.all_reverse] at this
  · intro h
    rw [dropWhile_nil.2 (by rwa [List.all_reverse])]; rfl
end Go.Proofs.YthdchkjipafmfaaDoor
