/- A scalar that comes in by value: opened and shut. -/
import Derived.Test.YthdchkjipafmfaaDoorScal
import Derived.ProofKit
import Derived.OpenShut
import Derived.Lib.SmallJoins
import Derived.SizedLaws
import Derived.Stop.LaidErr
import GoSem.PinnedTables
namespace Go.Proofs.YthdchkjipafmfaaDoor
open Go.ChangeShapes Go.WideShapes Go.ChangeAt Go.RowKit Go.Joins

theorem cellsS : Tryd.prog.cellsOf 23 = 4 := by kernel_rfl
/-- how a scalar reads -/
def scalD {H : Type} (k n : Int) (s : List UInt8) (t : Bool) : DataW H := .agg [.lit (.int .i64 k), .lit (.int .i64 n), .lit (.string s), .lit (.bool t)]
set_option maxRecDepth 100000 in
theorem open_scalar {H : Type} {enc : TypeId × Value → H} {w : World} {r : Reach} {b0 base : Nat} {sp : Nat → Bool} {held : Bool} {v : Value} {d : DataW H} {p : List MemPlace}
    (hv : Value.okWide Tryd.prog w r b0 23 v) (h : DataW.Trod enc Tryd.prog w base sp held 23 v d p) :
    ∃ (k n : Int) (s : ByteArray) (t : Bool), v = .agg #[.int .i64 k, .int .i64 n, .string s, .bool t] ∧ d = scalD k n s.data.toList t ∧ p = [] ∧ (Lit.int .i64 k).wf = true ∧ (Lit.int .i64 n).wf = true ∧ s.size ≤ maxLen := by
  obtain ⟨v0, v1, v2, v3, y0, y1, y2, y3, m, rfl, rfl, rfl, t0, t1, t2, t3⟩ := open_agg4 Tryd.underlying23 (by kernel_rfl) cellsS hv h
  obtain ⟨k, e0, rfl, wk⟩ := DataW.trod_int Tryd.underlying3 t0
  obtain ⟨n, e1, rfl, wn⟩ := DataW.trod_int Tryd.underlying3 t1
  obtain ⟨s, e2, rfl, ws⟩ := DataW.trod_string Tryd.underlying9 t2
  obtain ⟨t, e3, rfl⟩ := DataW.trod_bool Tryd.underlying4 t3
  simp at e0 e1 e2 e3
  subst e0 e1 e2 e3
  exact ⟨k, n, s, t, rfl, rfl, rfl, wk, wn, ws⟩
set_option maxRecDepth 100000 in
theorem shut_scalar {H : Type} {enc : TypeId × Value → H} {w : World} {base : Nat} {sp : Nat → Bool} {held : Bool} {k n : Int} {s : ByteArray} {t : Bool}
    (wk : (Lit.int .i64 k).wf = true) (wn : (Lit.int .i64 n).wf = true) (ws : s.size ≤ maxLen) : DataW.Trod enc Tryd.prog w base sp held 23 (.agg #[.int .i64 k, .int .i64 n, .string s, .bool t]) (scalD k n s.data.toList t) [] :=
  shut_agg4 (y0 := (.lit (.int .i64 k), [])) (y1 := (.lit (.int .i64 n), [])) (y2 := (.lit (.string s.data.toList), [])) (y3 := (.lit (.bool t), [])) Tryd.underlying23 (by kernel_rfl) cellsS
    ⟨1, by simp [DataW.trod, Tryd.underlying3, wk]⟩ ⟨1, by simp [DataW.trod, Tryd.underlying3, wn]⟩ ⟨1, by simp [DataW.trod, Tryd.underlying9, ws]⟩ ⟨1, by simp [DataW.trod, Tryd.underlying4]⟩
theorem sized_scalar {H : Type} {ts : List TypeId} {ds : List (DataW H)} (h : (DataW.weightsEach Tryd.prog ts ds).all (· ≤ reachBytes) = true) {j : Nat} {k n : Int} {s : ByteArray} {t : Bool}
    (ht : ts[j]? = some 23) (hd : ds[j]? = some (scalD k n s.data.toList t)) : s.size ≤ 140737488351232 := by
  have := List.all_eq_true.1 h _ (DataW.weights_mem_each ht hd s.data.toList.length (by simp [scalD, DataW.weights, DataW.weightsEach, Tryd.underlying23]))
  rw [sizeL] at this
  exact of_decide_eq_true this
theorem tab_of {W : World} {a b c d : String × DataW Unit} (hb : c = ("internal/strconv.uint64pow10", Lib.tabData .u64 Lib.pow10Tab)) (h : laidMet Tryd.prog [a, b, c, d, ("unicode/utf8.first", Go.Pinned.utf8First)] W) : Tab W := by
  subst hb
  exact Lib.tabIs_of_head (g := 1) (t := 128) (e := 114) (n := 20) (by kernel_rfl) (by kernel_rfl) Tryd.underlying128 Tryd.underlying114 (by kernel_rfl) (by kernel_rfl) (laidMet.tail (laidMet.tail h))
end Go.Proofs.YthdchkjipafmfaaDoor
