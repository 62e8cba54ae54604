/- The trailing zeros of 2, 8 and 16, by the table of the library; powers of two. -/
import Derived.Test.YthdchkjipafmfaaDoorNxtN
import Derived.Test.YthdchkjipafmfaaDoorShelfT
namespace Go.Proofs.YthdchkjipafmfaaDoor
open Go.RowKit Go.Shelf
/-- the library's table -/
def DTab (w : World) : Prop := TabAt 5 Lib.deBruijn64tab w
theorem DTab.on {w w' : World} (h : DTab w) (hg : Gr w w') : DTab w' := by
  have hlt : 5 < w.heap.size := by
    have h1 := h 0 (by decide)
    by_cases hl : 5 < w.heap.size
    · exact hl
    · have h0 : w.heap[5]? = none := Array.getElem?_eq_none (by omega)
      simp [World.cell?, h0] at h1
  exact fun j hj => (hg.cell hlt).trans (h j hj)
theorem tz_any (x k : Nat) (hx : x < 18446744073709551616) (hk : Lib.ctz 64 x = k) (w : World) (hT : DTab w) : Calls Tryd.prog 142 #[.int .u64 (x : Int)] w fun e w' => e = .returned (.int .i64 (k : Int)) ∧ w = w' := by
  have g := Any7.bits_TrailingZeros Tryd.lays7t27 x hx w (fun _ => hT)
  change Calls Tryd.prog 142 _ _ _ at g
  rw [hk] at g
  exact g.mono fun e w' ⟨he, hb⟩ => ⟨he, hb.symm⟩
theorem pow2_any (x : Int) (hx : x = 2 ∨ x = 8 ∨ x = 16) (w : World) : Calls Tryd.prog 141 #[.int .i64 x] w fun e w' => e = .returned (.bool true) ∧ w = w' := by
  rcases hx with rfl | rfl | rfl
  all_goals
    go_enter Tryd.func141, Tryd.ntmps141
    go_wp2
    go_ret
    exact ⟨by first | rfl | decide | (congr 2; decide), rfl⟩
end Go.Proofs.YthdchkjipafmfaaDoor
