import Derived.Test.YthmopindibdhnaaGreatDoorQ00
import Derived.Test.YthmopindibdhnaaGreatDoorQ20
namespace Go.Proofs.YthmopindibdhnaaGreatDoor.G
open Go.RowKit Go.Shelf Go.Maps
def lnN (X : Src) : Nat := (X.takeWhile notNl).length
theorem lnN_le (X : Src) : lnN X ≤ X.length := by
 unfold lnN
 have := (List.takeWhile_prefix (l := X) notNl).length_le
 exact this
theorem takeL : ∀ X : Src, X.takeWhile notNl = X.take (lnN X)
 | [] => rfl
 | x :: t => by
  unfold lnN
  rw [List.takeWhile_cons]
  cases h : notNl x with
  | true =>
   have := takeL t
   unfold lnN at this
   simp [← this]
  | false => simp
theorem dropL : ∀ X : Src, X.dropWhile notNl = X.drop (lnN X)
 | [] => rfl
 | x :: t => by
  unfold lnN
  rw [List.takeWhile_cons, List.dropWhile_cons]
  cases h : notNl x with
  | true =>
   have := dropL t
   unfold lnN at this
   simp [← this]
  | false => simp
variable {S : Src}
theorem ln_on {n : Nat} (h : n < S.length) (hc : S[n].2 ≠ 10) : n + lnN (S.drop n) = (n + 1) + lnN (S.drop (n + 1)) := by
 rw [List.drop_eq_getElem_cons h]
 unfold lnN
 rw [List.takeWhile_cons]
 have : notNl S[n] = true := by unfold notNl; simpa using hc
 rw [this]
 simp
 omega
theorem ln_end {n : Nat} (h : n < S.length) (hc : S[n].2 = 10) : lnN (S.drop n) = 0 := by
 rw [List.drop_eq_getElem_cons h]
 unfold lnN
 rw [List.takeWhile_cons]
 have : notNl S[n] = false := by unfold notNl; simp [hc]
 rw [this]
 rfl
theorem ln_out {n : Nat} (h : S.length ≤ n) : lnN (S.drop n) = 0 := by rw [List.drop_eq_nil_of_le h]; rfl
theorem linesS_at (name : List UInt8) (f : Nat) {n E : Nat} (hn : n < S.length) (hE : E = n + lnN (S.drop n)) :
  linesS name (f + 1) (S.drop n) = if (byt S).extract n E = name then some ([], S.drop (E + 1)) else (linesS name f (S.drop (E + 1))).map fun r => ((byt S).extract n (E + 1) ++ r.1, r.2) := by
 have hne : S.drop n ≠ [] := by
  intro e
  have := congrArg List.length e
  simp at this
  omega
 have e1 : byt ((S.drop n).takeWhile notNl) = (byt S).extract n E := by
  rw [takeL, byt_take, byt_drop, hE, List.extract_eq_take_drop]
  congr 1
  omega
 have e2 : ((S.drop n).dropWhile notNl).drop 1 = S.drop (E + 1) := by
  rw [dropL, List.drop_drop, List.drop_drop, hE]
  try congr 1
  try omega
 have e3 : byt ((S.drop n).takeWhile notNl) ++ byt (((S.drop n).dropWhile notNl).take 1) = (byt S).extract n (E + 1) := by
  rw [takeL, dropL, ← byt_app, List.drop_drop, byt_app, byt_take, byt_drop, byt_take, byt_drop, List.extract_eq_take_drop, ← List.drop_drop]
  rw [show E + 1 - n = lnN (S.drop n) + 1 by omega, List.take_add]
 rw [linesS, if_neg hne, e3, e1, e2]
theorem cutS_at (name : List UInt8) {n E : Nat} (hE : E = n + lnN (S.drop n)) :
  cutS name (S.drop n) = if E < S.length then (linesS name (S.length - E) (S.drop (E + 1))).map (fun r => (r.1, (S.drop n).take (E + 1 - n) ++ r.2)) else none := by
 unfold cutS
 rw [dropL, List.drop_drop, show n + lnN (S.drop n) = E from hE.symm]
 by_cases h : E < S.length
 ·rw [if_pos h, List.drop_eq_getElem_cons h, takeL]
  simp only [List.length_drop]
  rw [show S.length - (E + 1) + 1 = S.length - E by omega]
  congr 1
  funext r
  congr 1
  have e4 : (S.drop n).take (E + 1 - n) = (S.drop n).take (lnN (S.drop n)) ++ [S[E]] := by
   rw [show E + 1 - n = lnN (S.drop n) + 1 by omega, List.take_add, List.drop_drop, show n + lnN (S.drop n) = E from hE.symm, List.drop_eq_getElem_cons h]
   rfl
  rw [e4]
  simp
 ·rw [if_neg h, List.drop_eq_nil_of_le (by omega)]
end Go.Proofs.YthmopindibdhnaaGreatDoor.G
