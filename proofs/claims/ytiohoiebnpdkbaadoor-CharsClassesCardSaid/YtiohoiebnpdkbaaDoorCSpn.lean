/- Rows of spans that a call made; the reference's Is and Spans. -/
import Derived.Test.YtiohoiebnpdkbaaDoorCRCls
namespace Go.Proofs.YtiohoiebnpdkbaaDoor
open Go.RowKit Go.Shelf
def encS (x : Int × Int) : List Value := [.int .i64 x.1, .int .i64 x.2]
def cellsS (l : List (Int × Int)) : List Value := l.flatMap encS
theorem cellsS_len (l : List (Int × Int)) : (cellsS l).length = l.length * 2 := by
  unfold cellsS
  induction l with
  | nil => rfl
  | cons x r ih => rw [List.flatMap_cons, List.length_append, ih, List.length_cons]; simp [encS]; omega
theorem cellsS_app (l m : List (Int × Int)) : cellsS (l ++ m) = cellsS l ++ cellsS m := by simp [cellsS]
theorem cellsS_one (x : Int × Int) : cellsS [x] = encS x := by simp [cellsS]
abbrev OwnS (w : World) (base : Nat) (v : Value) (l : List (Int × Int)) : Prop := w.ownsRow base 29 2 v l.length (cellsS l)
theorem OwnS.gr {w w' : World} {base : Nat} {v : Value} {l : List (Int × Int)} (h : OwnS w base v l) (hg : Gr w w') : OwnS w' base v l := ownsRow_gr h hg
theorem infoSpan : (Tryd.prog.info? 29).map (fun i => (i.zero, i.size, i.bytes)) = some (some (.agg #[.int .i64 0, .int .i64 0]), 2, 16) := by kernel_rfl
/-- the cells of a row's last span -/
theorem OwnS.last {w : World} {base : Nat} {v : Value} {out : List (Int × Int)} {p : Int × Int} (h : OwnS w base v (out ++ [p])) : ∃ g cap, v = .slice (some ⟨g, 0, none⟩) (out.length + 1) cap ∧ base ≤ g ∧ g < w.heap.size ∧
    w.cell? ⟨g, out.length * 2, none⟩ = some (.int .i64 p.1) ∧ w.cell? ⟨g, out.length * 2 + 1, none⟩ = some (.int .i64 p.2) ∧ w.frozen? ⟨g, out.length * 2 + 1, none⟩ = false ∧
    ∀ c, OwnS (w.setCell ⟨g, out.length * 2 + 1, none⟩ (.int .i64 c)) base v (out ++ [(p.1, c)]) := by
  obtain ⟨h1, h2⟩ := h
  rcases h2 with ⟨_, h0⟩ | ⟨g, cap, cur, rfl, hb, hh, hn, hm, hs, ht⟩
  · simp at h0
  · have hlt : g < w.heap.size := (Array.getElem?_eq_some_iff.1 hh).1
    have hlen : (out ++ [p]).length = out.length + 1 := by simp
    rw [hlen] at hn ht
    have hcl := cellsS_len out
    have e0 : cur[out.length * 2]? = some (.int .i64 p.1) := by
      have := congrArg (fun l => l[out.length * 2]?) ht
      simp only [cellsS_app, cellsS_one] at this
      rw [List.getElem?_take, if_pos (by omega), List.getElem?_append_right (by omega), hcl, Nat.sub_self] at this
      simpa [encS] using this
    have e1 : cur[out.length * 2 + 1]? = some (.int .i64 p.2) := by
      have := congrArg (fun l => l[out.length * 2 + 1]?) ht
      simp only [cellsS_app, cellsS_one] at this
      rw [List.getElem?_take, if_pos (by omega), List.getElem?_append_right (by omega), hcl, Nat.add_sub_cancel_left] at this
      simpa [encS] using this
    refine ⟨g, cap, by rw [hlen], hb, hlt, by simp [World.cell?, hh, e0], by simp [World.cell?, hh, e1], by simp [World.frozen?, hh], fun c => ⟨by rw [cellsS_len], .inr ⟨g, cap, cur.setIfInBounds (out.length * 2 + 1) (.int .i64 c), by simp, hb, ?_, by simpa using hn, hm, by simpa using hs, ?_⟩⟩⟩
    · simp [World.setCell, Array.getElem?_modify, hh]
    · rw [Array.toList_setIfInBounds, List.take_set, show (out ++ [(p.1, c)]).length = out.length + 1 by simp, ht, cellsS_app, cellsS_one, cellsS_app, cellsS_one, List.set_append_right _ _ (by omega), hcl, Nat.add_sub_cancel_left]
      rfl
/-- what a function that gives spans ends in -/
def SpPost (L : List (Int × Int)) (w : World) (e : Ending) (w' : World) : Prop := ∃ v, e = .returned (.tuple #[v, .int .i64 0]) ∧ OwnS w' w.heap.size v L ∧ Gr w w'
theorem is_r {s : ByteArray} {q : Int → Bool} (h : Cl s q) (c : Int) (w : World) : Calls Tryd.prog 8 #[.int .i64 c, .string s] w fun e w' => e = .returned (.tuple #[.bool (isCh c && q c), .int .i64 (if isCh c = true then 0 else 1)]) ∧ w = w' := by
  have HC := Lib.hid (fun w => isClass_r h w)
  have HI := Lib.hid (fun w => in_r h c w)
  have HX := Lib.hid (fun w => isChar_r c w)
  generalize isCh c = b at *
  generalize q c = d at *
  clear h
  cases b
  all_goals
    go_enter Tryd.func8, Tryd.ntmps8
    go_wp2_with fail
    refine (HC.out _).mono ?_
    rintro e w1 ⟨rfl, rfl⟩
    go_wp2_with fail
    refine (HX.out _).mono ?_
    rintro e w2 ⟨rfl, rfl⟩
  · go_wp2
    go_ret2
    exact ⟨rfl, rfl⟩
  · go_wp2_with fail
    refine (HI.out _).mono ?_
    rintro e w3 ⟨rfl, rfl⟩
    go_wp2
    go_ret2
    exact ⟨by simp, rfl⟩
theorem is_rn {s : ByteArray} (h : NoCl s) (c : Int) (w : World) : Calls Tryd.prog 8 #[.int .i64 c, .string s] w fun e w' => e = .returned (.tuple #[.bool false, .int .i64 4]) ∧ w = w' := by
  have HC := Lib.hid (fun w => isClass_n h w)
  clear h
  go_enter Tryd.func8, Tryd.ntmps8
  go_wp2_with fail
  refine (HC.out _).mono ?_
  rintro e w1 ⟨rfl, rfl⟩
  go_wp2
  go_ret2
  exact ⟨rfl, rfl⟩
theorem spans_rn {s : ByteArray} (h : NoCl s) (w : World) : Calls Tryd.prog 9 #[.string s] w fun e w' => e = .returned (.tuple #[.slice none 0 0, .int .i64 4]) ∧ w = w' := by
  have HC := Lib.hid (fun w => isClass_n h w)
  clear h
  go_enter Tryd.func9, Tryd.ntmps9
  go_wp2_with fail
  refine (HC.out _).mono ?_
  rintro e w1 ⟨rfl, rfl⟩
  go_wp2
  go_ret2
  exact ⟨rfl, rfl⟩
end Go.Proofs.YtiohoiebnpdkbaaDoor
