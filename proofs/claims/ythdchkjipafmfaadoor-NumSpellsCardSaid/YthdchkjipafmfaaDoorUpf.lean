/- The next text: the plain function, and the reference's further. -/
import Derived.Test.YthdchkjipafmfaaDoorCnt
namespace Go.Proofs.YthdchkjipafmfaaDoor
open Go.RowKit Go.Shelf

def wrapC (c : UInt8) : Option UInt8 := if c = 122 then some 97 else if c = 90 then some 65 else if c = 57 then some 48 else none
def frontC (c : UInt8) : UInt8 := if c = 122 then 97 else if c = 90 then 65 else 49
/-- one further, from the back: f is what stands in front when all wraps -/
def upf (f : UInt8) : List UInt8 → List UInt8
  | [] => [f]
  | c :: r => match wrapC c with
    | some d => d :: upf f r
    | none => (c + 1) :: r
def nextL : List UInt8 → List UInt8
  | [] => []
  | c :: r => (upf (frontC c) (c :: r).reverse).reverse
/-- what comes behind a text -/
def further (l : List UInt8) : List UInt8 := if cnt l = true then nextL l else Lib.itoa (min (number l + 1) 9007199254740992)
theorem upf_none {f c : UInt8} {r : List UInt8} (h : wrapC c = none) : upf f (c :: r) = (c + 1) :: r := by rw [upf, h]
theorem upf_some {f c d : UInt8} {r : List UInt8} (h : wrapC c = some d) : upf f (c :: r) = d :: upf f r := by rw [upf, h]
theorem upf_len (f : UInt8) : ∀ l : List UInt8, (upf f l).length ≤ l.length + 1
  | [] => by simp [upf]
  | c :: r => by
    rcases h : wrapC c with _ | d
    · rw [upf_none h]; simp
    · rw [upf_some h]; simp; exact upf_len f r
theorem nextL_len (l : List UInt8) : (nextL l).length ≤ l.length + 1 := by
  cases l with
  | nil => simp [nextL]
  | cons c r =>
    rw [nextL, List.length_reverse]
    refine Nat.le_trans (upf_len _ _) ?_
    simp
theorem nextL_none {p : List UInt8} {c : UInt8} (h : wrapC c = none) : nextL (p ++ [c]) = p ++ [c + 1] := by
  cases p with
  | nil => show (upf (frontC c) [c]).reverse = _; rw [upf_none h]; rfl
  | cons a p =>
    rw [List.cons_append, nextL, ← List.cons_append, List.reverse_append]
    show (upf _ (c :: (a :: p).reverse)).reverse = _
    rw [upf_none h, List.reverse_cons, List.reverse_reverse]
theorem nextL_one {c d : UInt8} (h : wrapC c = some d) : nextL [c] = [frontC c, d] := by
  show (upf (frontC c) [c]).reverse = _; rw [upf_some h]; rfl
theorem nextL_some {p : List UInt8} {c d : UInt8} (hp : p ≠ []) (h : wrapC c = some d) : nextL (p ++ [c]) = nextL p ++ [d] := by
  cases p with
  | nil => exact absurd rfl hp
  | cons a p =>
    rw [List.cons_append, nextL, ← List.cons_append, List.reverse_append]
    show (upf _ (c :: (a :: p).reverse)).reverse = _
    rw [upf_some h, List.reverse_cons]; rfl
theorem cnt_pre {p : List UInt8} {c : UInt8} (hp : p ≠ []) (h : cnt (p ++ [c]) = true) : cnt p = true := by
  unfold cnt at h ⊢
  rw [Bool.and_eq_true] at h ⊢
  refine ⟨?_, lets_pre c p h.2⟩
  cases p with
  | nil => exact absurd rfl hp
  | cons a p => rfl
theorem further_cnt {l : List UInt8} (h : cnt l = true) : further l = nextL l := if_pos h
theorem further_num {l : List UInt8} (h : cnt l = false) : further l = Lib.itoa (min (number l + 1) 9007199254740992) := if_neg (by rw [h]; decide)
theorem eqB (c : UInt8) (k : UInt8) : ((c.toNat : Int) == (k.toNat : Int)) = decide (c = k) := by
  rw [Bool.eq_iff_iff, beq_iff_eq, decide_eq_true_iff, ← UInt8.toNat_inj]; omega
theorem wrap_cases (c : UInt8) (h : letB (c.toNat : Int) = true ∨ digB (c.toNat : Int) = true) :
    (((c.toNat : Int) == 122) = true ∧ ((c.toNat : Int) == 57) = false ∧ wrapC c = some 97 ∧ frontC c = 97) ∨
    (((c.toNat : Int) == 122) = false ∧ ((c.toNat : Int) == 90) = true ∧ ((c.toNat : Int) == 57) = false ∧ wrapC c = some 65 ∧ frontC c = 65) ∨
    (((c.toNat : Int) == 122) = false ∧ ((c.toNat : Int) == 90) = false ∧ ((c.toNat : Int) == 57) = true ∧ wrapC c = some 48 ∧ frontC c = 49) ∨
    (((c.toNat : Int) == 122) = false ∧ ((c.toNat : Int) == 90) = false ∧ ((c.toNat : Int) == 57) = false ∧ wrapC c = none ∧ (c.toNat : Int) ≤ 121) := by
  have e1 : ((c.toNat : Int) == 122) = decide (c = 122) := eqB c 122
  have e2 : ((c.toNat : Int) == 90) = decide (c = 90) := eqB c 90
  have e3 : ((c.toNat : Int) == 57) = decide (c = 57) := eqB c 57
  by_cases h1 : c = 122
  · subst h1; exact .inl ⟨rfl, rfl, rfl, rfl⟩
  by_cases h2 : c = 90
  · subst h2; exact .inr (.inl ⟨rfl, rfl, rfl, rfl, rfl⟩)
  by_cases h3 : c = 57
  · subst h3; exact .inr (.inr (.inl ⟨rfl, rfl, rfl, rfl, rfl⟩))
  rw [decide_eq_false h1] at e1
  rw [decide_eq_false h2] at e2
  rw [decide_eq_false h3] at e3
  refine .inr (.inr (.inr ⟨e1, e2, e3, by unfold wrapC; rw [if_neg h1, if_neg h2, if_neg h3], ?_⟩))
  rw [letB_true, digB_true] at h
  simp at e1
  omega
theorem inc_eq (c : UInt8) : UInt8.ofNat ((c.toNat : Int) + 1).toNat = c + 1 := by
  have : ((c.toNat : Int) + 1).toNat = c.toNat + 1 := by omega
  rw [this, UInt8.ofNat_add, UInt8.ofNat_toNat]; rfl
theorem last_eq (s : ByteArray) (m : Nat) (h : s.size = m + 1) : s.data.toList = (s.extract 0 m).data.toList ++ [s[m]] := by
  have hd : s.data.toList.drop m = [s[m]] := by
    rw [drop_at s m (by omega), nil_at s (m + 1) (by omega)]
  have : (s.extract 0 m).data.toList = s.data.toList.take m := by simp
  rw [this, ← hd, List.take_append_drop]
end Go.Proofs.YthdchkjipafmfaaDoor
