/- Words: the reference's side; which texts are words, on both sides. -/
import Derived.Test.YtcaoknlgbocgpaaDoorLWord
namespace Go.Proofs.YtcaoknlgbocgpaaDoor
open Go.RowKit Go.Shelf
variable {l : List UInt8} {f n : Nat}
theorem sep_eq (h : n + 2 < l.length) : sepAt l n = (l[n] == 58 && l[n + 1] == 58 && alphaB l[n + 2].toNat) := by
  unfold sepAt
  rw [List.getElem?_eq_getElem h, List.drop_eq_getElem_cons (by omega : n < l.length), List.drop_eq_getElem_cons (by omega : n + 1 < l.length)]
  simp only [Lib.hasPrefix, List.isPrefixOf, Bool.and_true]
  rw [BEq.comm (a := (58 : UInt8)), BEq.comm (a := (58 : UInt8))]
theorem sep_short (h : ¬ n + 2 < l.length) : sepAt l n = false := by
  cases hs : sepAt l n with
  | false => rfl
  | true => exact absurd (sep_len hs) h
end Go.Proofs.YtcaoknlgbocgpaaDoor
