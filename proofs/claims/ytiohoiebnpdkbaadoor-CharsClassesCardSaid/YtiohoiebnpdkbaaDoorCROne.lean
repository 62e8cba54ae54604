/- The reference's text of a character. -/
import Derived.Test.YtiohoiebnpdkbaaDoorCPts
namespace Go.Proofs.YtiohoiebnpdkbaaDoor
open Go.RowKit Go.Shelf
theorem back_lit (w : World) (l : List UInt8) (k : Nat) (hk : k = l.length) (cs : Array Value) (hcs : cs = (l.map fun b => Value.int .u8 (b.toNat : Int)).toArray) (T : TypeId) (cap : Nat) :
    (convert 86 9 (.slice (some ⟨w.heap.size, 0, none⟩) k cap)).run Tryd.prog (w.alloc (.cells cs T)) = .ok (.string ⟨l.toArray⟩) (w.alloc (.cells cs T)) := by
  subst hk hcs
  refine run_convert_bytes_back _ 86 9 5 ⟨w.heap.size, 0, none⟩ cap l Tryd.underlying86 Tryd.underlying5 Tryd.underlying9 (fun j hj => ?_)
  rw [WideShapes.add_plain, Nat.zero_add, World.cell?_alloc_mark]
  simp [hj]
end Go.Proofs.YtiohoiebnpdkbaaDoor
