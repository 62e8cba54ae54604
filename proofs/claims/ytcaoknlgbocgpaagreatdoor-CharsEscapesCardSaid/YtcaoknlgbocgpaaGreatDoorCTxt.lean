/- The program's Points, Text, Reverse; the reference's. -/
import Derived.Test.YtcaoknlgbocgpaaGreatDoorCRInts
import Derived.Test.YtcaoknlgbocgpaaGreatDoorCMap
namespace Go.Proofs.YtcaoknlgbocgpaaGreatDoor
open Go.RowKit Go.Shelf
/-- the answer with a row of characters -/
def ansP (l : List UInt8) : List Int × Int := if chkE l = 0 then (runesL l, 0) else ([], chkE l)
theorem ansP_no {l : List UInt8} (h : ¬ chkE l = 0) : ansP l = ([], chkE l) := if_neg h
theorem ansP_ok {l : List UInt8} (h : chkE l = 0) : ansP l = (runesL l, 0) := if_pos h
def PtsE (a : List Int × Int) (w : World) (e : Ending) (w' : World) : Prop := ∃ v, e = .returned (.tuple #[v, .int .i64 a.2]) ∧ OwnI w' w.heap.size v a.1 ∧ Gr w w'
theorem OwnI.down' {w : World} {a b : Nat} {v : Value} {l : List Int} (h : OwnI w b v l) (hab : a ≤ b) : OwnI w a v l :=
  ⟨h.1, h.2.imp id (fun ⟨g, cp, cur, h0, h1, h2⟩ => ⟨g, cp, cur, h0, Nat.le_trans hab h1, h2⟩)⟩
/-- the text of a row of numbers -/
def txtL (l : List Int) : List UInt8 × Int := if l.all isCh = true then sizE (writeL l) else ([], 1)
theorem txtL_no {l : List Int} (h : l.all isCh = false) : txtL l = ([], 1) := by unfold txtL; rw [if_neg (by rw [h]; decide)]
theorem txtL_ok {l : List Int} (h : l.all isCh = true) : txtL l = sizE (writeL l) := if_pos h
abbrev TxtQ (a : List UInt8 × Int) (w : World) (e : Ending) (w' : World) : Prop := e = .returned (.tuple #[.string ⟨a.1.toArray⟩, .int .i64 a.2]) ∧ Gr w w'
theorem any_all (l : List Int) : l.any (fun c => !isCh c) = !l.all isCh := by
  induction l with
  | nil => rfl
  | cons c l ih => rw [List.any_cons, List.all_cons, ih, Bool.not_and]
end Go.Proofs.YtcaoknlgbocgpaaGreatDoor
