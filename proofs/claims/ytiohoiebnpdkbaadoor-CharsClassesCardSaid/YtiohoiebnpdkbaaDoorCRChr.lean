/- The reference's forms of one character. -/
import Derived.Test.YtiohoiebnpdkbaaDoorCRInts
import Derived.Test.YtiohoiebnpdkbaaDoorCForm
namespace Go.Proofs.YtiohoiebnpdkbaaDoor
open Go.RowKit Go.Shelf
theorem within_r (c lo hi : Int) (w : World) : Calls Tryd.prog 85 #[.int .i64 c, .int .i64 lo, .int .i64 hi] w fun e w' => e = .returned (.bool (decide (lo ≤ c) && decide (c ≤ hi))) ∧ w = w' := by
  go_enter Tryd.func85, Tryd.ntmps85
  go_wp2
  all_goals (go_ret; exact ⟨by first | (simp_all; done) | (simp_all; omega), rfl⟩)
theorem own_lit (w : World) (l : List Int) (hl : l.length ≤ 1000) : OwnI (w.alloc (.cells (l.map intV).toArray 3)) w.heap.size (.slice (some ⟨w.heap.size, 0, none⟩) l.length l.length) l :=
  ⟨by simp, .inr ⟨w.heap.size, l.length, (l.map intV).toArray, rfl, Nat.le_refl _, heap_alloc_new w _, Nat.le_refl _, by unfold maxLen; omega, by simp, by simp [List.take_of_length_le]⟩⟩
theorem pts_lit {q : List Int} (l : List Int) (hq : Hid (q = l)) (hl : l.length ≤ 1000) (w : World) : PtsPost q w (.returned (.slice (some ⟨w.heap.size, 0, none⟩) l.length l.length)) (w.alloc (.cells (l.map intV).toArray 3)) := by
  rw [hq.out]; exact ⟨_, rfl, own_lit w l hl, (Gr.refl w).alloc _⟩
end Go.Proofs.YtiohoiebnpdkbaaDoor
