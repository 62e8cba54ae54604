/- Rows of integers and of texts; the program's check, isNoCharacter; what a builder and an iterator keep. -/
import Derived.Test.YtcaoknlgbocgpaaGreatDoorCVal
import Derived.Test.YtcaoknlgbocgpaaGreatDoorCShelf2
namespace Go.Proofs.YtcaoknlgbocgpaaGreatDoor
open Go.RowKit Go.Shelf
/-- in w the slice v holds the integers l -/
def IntsIs (w : World) (v : Value) (l : List Int) : Prop := ∃ ao cap, v = .slice ao l.length cap ∧ ∀ k (h : k < l.length), ∃ b o, ao = some ⟨b, o, none⟩ ∧ b < w.heap.size ∧ w.cell? ⟨b, o + k, none⟩ = some (.int .i64 l[k])
theorem IntsIs.gr {w w' : World} {v : Value} {l : List Int} (h : IntsIs w v l) (hg : Gr w w') : IntsIs w' v l := by
  obtain ⟨ao, cap, e, hc⟩ := h
  refine ⟨ao, cap, e, fun k hk => ?_⟩
  obtain ⟨b, o, e1, hb, hcell⟩ := hc k hk
  exact ⟨b, o, e1, Nat.lt_of_lt_of_le hb hg.size, by rw [hg.cell hb]; exact hcell⟩
abbrev intV (x : Int) : Value := .int .i64 x
abbrev OwnI (w : World) (base : Nat) (v : Value) (l : List Int) : Prop := w.ownsRow base 3 1 v l.length (l.map intV)
theorem OwnI.ints {w : World} {base : Nat} {v : Value} {l : List Int} (h : OwnI w base v l) : IntsIs w v l := by
  rcases h.2 with ⟨rfl, h0⟩ | ⟨g, cap, cur, rfl, h1, h2, h3, h4, h5, h6⟩
  · have : l = [] := List.eq_nil_of_length_eq_zero h0
    subst this
    exact ⟨_, _, rfl, fun k hk => absurd hk (Nat.not_lt_zero _)⟩
  · refine ⟨_, _, rfl, fun k hk => ⟨g, 0, rfl, (Array.getElem?_eq_some_iff.1 h2).1, ?_⟩⟩
    rw [Nat.zero_add, cell_of_row w g k cur 3 (0, 0) h2]
    have hm : (l.map intV)[k]? = some (intV l[k]) := by rw [List.getElem?_map, List.getElem?_eq_getElem hk]; rfl
    rw [← h6, List.getElem?_take] at hm
    split at hm
    · simpa using hm
    · cases hm
theorem OwnI.gr {w w' : World} {base : Nat} {v : Value} {l : List Int} (h : OwnI w base v l) (hg : Gr w w') : OwnI w' base v l := ownsRow_gr h hg
/-- a part of a row -/
theorem IntsIs.sub {w : World} {ao : Option Addr} {n cap : Nat} {l : List Int} (h : IntsIs w (.slice ao n cap) l) : n = l.length ∧ ∀ k (h : k < l.length), ∃ b o, ao = some ⟨b, o, none⟩ ∧ b < w.heap.size ∧ w.cell? ⟨b, o + k, none⟩ = some (.int .i64 l[k]) := by
  obtain ⟨ao', cap', e, hc⟩ := h
  injection e with e1 e2 e3
  subst e1
  exact ⟨e2, hc⟩
theorem Gr.grownBy {w w' : World} (h : Gr w w') : w.grownBy w' none := by
  have h' : Below w.heap.size w w' := h
  exact ⟨h'.os, h'.tape, h'.output, h'.size, fun k hk _ => h'.block k hk⟩
theorem Bld.gr {B : Nat} {l : List UInt8} {w w' : World} (h : Bld B l w) (hg : Gr w w') : Bld B l w' := by
  have key : ∀ p, Lib.BuilderAtF 48 5 B B p (Lib.byteCells l) w → Lib.BuilderAtF 48 5 B B p (Lib.byteCells l) w' := by
    rintro p ⟨hB, v, hb, hown, hne⟩
    have hg' : Below w.heap.size w w' := hg
    exact ⟨hB, v, (hg'.block B (Array.getElem?_eq_some_iff.1 hb).1).trans hb, hown.kept hg.grownBy (by cases hv : v.ownBlock <;> simp), hne⟩
  exact h.elim (fun x => .inl (key _ x)) (fun x => .inr (key _ x))
theorem Bld.lt {B : Nat} {l : List UInt8} {w : World} (h : Bld B l w) : B < w.heap.size := by
  rcases h with ⟨_, v, hb, _⟩ | ⟨_, v, hb, _⟩
  · exact (Array.getElem?_eq_some_iff.1 hb).1
  · exact (Array.getElem?_eq_some_iff.1 hb).1
theorem iter_gr {w w' : World} {k : Nat} {s : ByteArray} {p : Nat} (h : w.heap[k]? = some (.stringIter s p)) (hg : Gr w w') : w'.heap[k]? = some (.stringIter s p) := by
  have hg' : Below w.heap.size w w' := hg
  exact (hg'.block k (Array.getElem?_eq_some_iff.1 h).1).trans h
theorem ch_valid (c : Int) : Lib.validRune c = isCh c := by
  rw [Bool.eq_iff_iff, isCh_true]
  simp [Lib.validRune]; omega
set_option maxRecDepth 100000 in
theorem isNo_p (c : Int) (w : World) : Calls Tryz.prog 61 #[.int .i64 c] w fun e w' => e = .returned (.bool (!isCh c)) ∧ w = w' := by
  by_cases h : c < 0 ∨ 1114111 < c
  · have hE : Hid (isCh c = false) := Lib.hid (by
      cases hc : isCh c
      · rfl
      · have := isCh_true.1 hc; omega)
    rcases h with h | h
    all_goals
      go_enter Tryz.func61, Tryz.ntmps61
      go_wp2
      go_ret
      exact ⟨by rw [hE.out]; rfl, rfl⟩
  · have HV := Lib.hid (fun w => valid_any c w)
    rw [ch_valid] at HV
    have h0 : 0 ≤ c := by omega
    have h1 : c ≤ 1114111 := by omega
    clear h
    generalize isCh c = b at *
    go_enter Tryz.func61, Tryz.ntmps61
    go_wp2_with (go_at_call 80; refine (HV.out _).mono ?_; rintro e w3 ⟨rfl, rfl⟩)
    go_ret
    exact ⟨by
      show Ending.returned (Value.bool (decide (c < 0) || decide (1114111 < c) || !b)) = _
      rw [decide_eq_false (by omega), decide_eq_false (by omega)]; rfl, rfl⟩
end Go.Proofs.YtcaoknlgbocgpaaGreatDoor
