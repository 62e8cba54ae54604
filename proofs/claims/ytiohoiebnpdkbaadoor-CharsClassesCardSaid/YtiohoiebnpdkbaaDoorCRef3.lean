/- The reference's errors of two texts, and of a result. -/
import Derived.Test.YtiohoiebnpdkbaaDoorCRef2
namespace Go.Proofs.YtiohoiebnpdkbaaDoor
open Go.RowKit Go.Shelf
def chk2 (l m : List UInt8) : Int := if chkE l = 0 then chkE m else chkE l
/-- a text that must not be too long -/
def sizE (l : List UInt8) : List UInt8 × Int := if 4096 < l.length then ([], 3) else (l, 0)
end Go.Proofs.YtiohoiebnpdkbaaDoor
