/- The reference's rows of characters: Runes, Write, SameInts. -/
import Derived.Test.YtiohoiebnpdkbaaDoorCROne
namespace Go.Proofs.YtiohoiebnpdkbaaDoor
open Go.RowKit Go.Shelf
def strSz : Value → Nat
  | .string s => s.size
  | _ => 0
theorem infoByte : (Tryd.prog.info? 5).map (fun i => (i.zero, i.size, i.bytes)) = some (some (.int .u8 0), 1, 1) := by kernel_rfl
abbrev OwnB (w : World) (base : Nat) (v : Value) (l : List UInt8) : Prop := w.ownsRowF base 5 1 v l.length (Lib.byteCells l)
theorem OwnB.gr {w w' : World} {base : Nat} {v : Value} {l : List UInt8} (h : OwnB w base v l) (hg : Gr w w') : OwnB w' base v l := h.kept hg.grownBy (by cases hv : v.ownBlock <;> simp)
theorem OwnB.back {w : World} {base : Nat} {v : Value} {l : List UInt8} (h : OwnB w base v l) : (convert 86 9 v).run Tryd.prog w = .ok (.string ⟨l.toArray⟩) w := by
  rcases h.2 with ⟨rfl, h0⟩ | ⟨g, cap, cur, fz, rfl, hb, hg, hrest⟩
  · have : l = [] := List.eq_nil_of_length_eq_zero h0
    subst this
    simp [convert, run_underlying Tryd.underlying86, run_underlying Tryd.underlying5, run_underlying Tryd.underlying9, Conv.bytesToString]
    rfl
  · refine run_convert_bytes_back _ 86 9 5 ⟨g, 0, none⟩ cap l Tryd.underlying86 Tryd.underlying5 Tryd.underlying9 (fun j hj => ?_)
    have := h.cells rfl j (.int .u8 (l[j].toNat : Int)) (by unfold Lib.byteCells; rw [List.getElem?_map, List.getElem?_eq_getElem hj]; rfl)
    exact this
theorem OwnB.lt {w : World} {base : Nat} {v : Value} {l : List UInt8} (h : OwnB w base v l) : ∀ k, v.ownBlock = some k → base ≤ k := fun k hk => (World.ownsRowF.lt h k hk).1
theorem OwnB.shape {w : World} {base : Nat} {v : Value} {l : List UInt8} (h : OwnB w base v l) : ∃ ao cap, v = .slice ao l.length cap := by
  rcases h.2 with ⟨rfl, h0⟩ | ⟨g, cap, cur, fz, rfl, _⟩
  · exact ⟨_, _, by rw [h0]⟩
  · exact ⟨_, _, rfl⟩
theorem writeL_len (cs : List Int) : (writeL cs).length ≤ 4 * cs.length := by
  induction cs with
  | nil => simp [writeL]
  | cons c cs ih => rw [writeL_cons, List.length_append, List.length_cons]; have := (oneL_len c).2; omega
theorem ints_bound {w : World} {l : List Int} {k : Nat} {ao : Option Addr} (h : ∀ k (h : k < l.length), ∃ b o, ao = some ⟨b, o, none⟩ ∧ b < w.heap.size ∧ w.cell? ⟨b, o + k, none⟩ = some (.int .i64 l[k])) (hk : k < l.length) :
    ∃ b o, ao = some ⟨b, o, none⟩ ∧ w.cell? ⟨b, o + k, none⟩ = some (.int .i64 l[k]) := by
  obtain ⟨b, o, e, _, h⟩ := h k hk
  exact ⟨b, o, e, h⟩
def sameR (Q : Bool) (l m : List Int) (k : Nat) : Prop := Q = decide (l.drop k = m.drop k)
end Go.Proofs.YtiohoiebnpdkbaaDoor
