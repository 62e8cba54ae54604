/- Patterns without the backslash before a slash; the flags behind a quote. -/
import Derived.Test.YtaoehbnjipegoaaDoorLEach
namespace Go.Proofs.YtaoehbnjipegoaaDoor
open Go.RowKit Go.Shelf
def wsG (p : List UInt8) : List UInt8 := if p == [92, 47] then [47] else p
theorem wsG_le (p : List UInt8) : (wsG p).length ≤ p.length := by
  unfold wsG
  split
  · rename_i h; rw [beq_iff_eq] at h; rw [h]; decide
  · exact Nat.le_refl _
theorem ws_piece : Piece 97 #[] wsG := by
  intro p W
  by_cases h : p.toList = [92, 47]
  · have hb : (p.toList == [92, 47]) = true := by simpa using h
    have h' : p.data.toList = [92, 47] := by rw [ByteArray.toList_eq] at h; exact h
    show Calls Tryd.prog 97 #[.string p] W _
    rw [h']
    clear h h'
    go_enter Tryd.func97, Tryd.ntmps97
    go_wp2
    go_ret
    exact ⟨_, rfl, rfl, Gr.refl W⟩
  · have hb : (p.toList == [92, 47]) = false := by simpa using h
    have h' : wsG p.data.toList = p.data.toList := by rw [ByteArray.toList_eq] at h; unfold wsG; rw [if_neg (by simpa using h)]
    show Calls Tryd.prog 97 #[.string p] W _
    rw [h']
    clear h h'
    go_enter Tryd.func97, Tryd.ntmps97
    go_wp2
    go_ret
    exact ⟨_, rfl, rfl, Gr.refl W⟩
def wsL (l : List UInt8) : List UInt8 := eachL wsG l.length l
theorem ws_p (s : ByteArray) (hs : s.size ≤ 140737488351232) (w : World) : Calls Tryd.prog 82 #[.string s] w fun e w' => ∃ q : ByteArray, q.data.toList = wsL s.data.toList ∧ e = .returned (.string q) ∧ Gr w w' := by
  have HE := Lib.hid (fun w => each_ws wsG wsG_le ws_piece s hs w)
  have hR : wsL s.data.toList = eachL wsG s.size s.data.toList := by unfold wsL; rw [sizeL]
  rw [hR]
  clear hR
  go_enter Tryd.func82, Tryd.ntmps82
  go_wp2_with fail
  refine (HE.out _).mono ?_
  rintro e w2 ⟨q, hq, rfl, g⟩
  go_wp2
  go_ret
  exact ⟨q, hq, rfl, g⟩
end Go.Proofs.YtaoehbnjipegoaaDoor
