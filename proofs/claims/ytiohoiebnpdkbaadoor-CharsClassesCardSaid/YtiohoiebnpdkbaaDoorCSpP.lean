/- The spans of a class: all of its rows, sorted, those that touch joined. -/
import Derived.Test.YtiohoiebnpdkbaaDoorCIs
import Derived.Test.YtiohoiebnpdkbaaDoorCSrt
import Derived.Test.YtiohoiebnpdkbaaDoorCShelf5
namespace Go.Proofs.YtiohoiebnpdkbaaDoor
open Go.RowKit Go.Shelf Go.Lib Go.Sort
/-- one more span: it touches the last one, or it does not -/
def joinS (out : List (Int × Int)) (p : Int × Int) : List (Int × Int) :=
  match out.getLast? with
  | some q => if q.2 + 1 = p.1 then out.dropLast ++ [(q.1, p.2)] else out ++ [p]
  | none => out ++ [p]
def joinL (l : List (Int × Int)) : List (Int × Int) := l.foldl joinS []
theorem closure_p (x y : Int × Int) (W : World) : Calls Tryd.prog 31 #[.agg #[.int .i64 x.1, .int .i64 x.2], .agg #[.int .i64 y.1, .int .i64 y.2]] W fun e w' => e = .returned (.int .i64 (cfLo x y)) ∧ ∃ q os', w' = grow (W.drewN q) os' := by
  have hcon := Lib.hid (fun W' => AnyG.cmp_Compare_int Tryd.laysCmp x.1 y.1 W')
  unfold cfLo
  generalize Lib.compareInt x.1 y.1 = r at hcon ⊢
  go_enter Tryd.func31, Tryd.ntmps31
  go_wp2_with (go_at_call 32; refine (hcon.out _).mono ?_; rintro e w' ⟨rfl, rfl⟩)
  go_ret
  exact ⟨rfl, 0, _, by rw [alloc_eq_grow, alloc_eq_grow, grow_grow]; rfl⟩
theorem spanAgg (W : World) : (isAgg 29).run Tryd.prog W = .ok true W := by kernel_rfl
theorem spanSize (W : World) : (Go.sizeOf 29).run Tryd.prog W = .ok 2 W := by kernel_rfl
theorem sort_p {w0 w : World} {v : Value} {d L : List (Int × Int)} (h : OwnS w w0.heap.size v d) (hg : Gr w0 w) (hne : d ≠ []) (hL : L.Perm d) (hLs : L.Pairwise (fun a b => a.1 ≤ b.1)) (hi : ∀ a ∈ L, ∀ b ∈ L, a.1 = b.1 → a = b) (hsz : d.length < 1000) :
    Calls Tryd.prog 30 #[v, .func (.func 31) #[] #[]] w fun e w' => e = .returned (.tuple #[]) ∧ OwnS w' w0.heap.size v L ∧ Gr w0 w' := by
  obtain ⟨g, cap, rfl, hb, hlt, hH⟩ := holdsS h hne
  have eg : ∀ args w, (callFunc 31 args).run Tryd.prog w = .ok (.enter 31 args) w := enters_of Tryd.func31 (by kernel_rfl) rfl
  have hcon := AnyQ.slices_SortFunc Tryd.laysSort 2 spanAgg spanSize encS (fun _ => rfl) (fun x v hv => by simp [encS] at hv; rcases hv with rfl | rfl <;> rfl) cfLo swoLo 31 #[] g 0 cap d.toArray w eg (fun _ _ _ _ x y => closure_p x y _) hH hlt (by simp; omega)
  have e1 : d.toArray.size = d.length := by simp
  rw [e1] at hcon
  refine Calls.mono hcon ?_
  rintro e w' ⟨he, d', n, os, hp, hs, rfl⟩
  have hd := sort_eq hp hs hL hLs hi
  rw [hd]
  exact ⟨he, putS os h (hL.length_eq), Below.grown hg (grownBy_sortedS _) hg.size (fun k hk => by cases hk; exact hb)⟩
end Go.Proofs.YtiohoiebnpdkbaaDoor
