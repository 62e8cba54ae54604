/- The bridge between rows of spans that a call made and the rows of a sort; which list it is that is sorted. -/
import Derived.Test.YtiohoiebnpdkbaaDoorCSpn
import Derived.Shelf.SlSortCmp.WholeK
namespace Go.Proofs.YtiohoiebnpdkbaaDoor
open Go.RowKit Go.Shelf Go.Lib Go.Sort
theorem cellsS_get : ∀ (l : List (Int × Int)) (t : Nat), t < l.length * 2 → (cellsS l)[t]? = some ((encS l[t / 2]!)[t % 2]!)
  | [], t, h => by simp at h
  | x :: r, 0, _ => by simp [cellsS, encS]
  | x :: r, 1, _ => by simp [cellsS, encS]
  | x :: r, t + 2, h => by
    have := cellsS_get r t (by simp at h; omega)
    rw [show cellsS (x :: r) = encS x ++ cellsS r from by simp [cellsS], List.getElem?_append_right (by simp [encS]), show t + 2 - (encS x).length = t by simp [encS], this]
    rw [show (t + 2) / 2 = t / 2 + 1 by omega, show (t + 2) % 2 = t % 2 by omega]
    simp
theorem holdsS {w : World} {base : Nat} {v : Value} {l : List (Int × Int)} (h : OwnS w base v l) (hv : l ≠ []) : ∃ g cap, v = .slice (some ⟨g, 0, none⟩) l.length cap ∧ base ≤ g ∧ g < w.heap.size ∧ HoldsK encS 2 w g 0 l.toArray := by
  obtain ⟨h1, h2⟩ := h
  rcases h2 with ⟨_, h0⟩ | ⟨g, cap, cur, rfl, hb, hh, hn, hm, hs, ht⟩
  · exact absurd (List.length_eq_zero_iff.1 (by simpa using h0)) hv
  · refine ⟨g, cap, rfl, hb, (Array.getElem?_eq_some_iff.1 hh).1, fun j hj => ⟨?_, by simp [World.frozen?, hh]⟩⟩
    have hj' : j < l.length * 2 := by simpa using hj
    have e1 : (cur.toList.take (l.length * 2))[j]? = (cellsS l)[j]? := by rw [ht]
    rw [List.getElem?_take, if_pos hj', Array.getElem?_toList, cellsS_get _ _ hj'] at e1
    rw [get_flatK _ _ _ _ (by simpa using hj')]
    simp [World.cell?, hh, e1]
theorem putS {w : World} {base g n cap q : Nat} {l l' : List (Int × Int)} (os : Array Obj) (h : OwnS w base (.slice (some ⟨g, 0, none⟩) n cap) l) (hl : l'.length = l.length) :
    OwnS (sortWorldK encS 2 w g 0 q l'.toArray os) base (.slice (some ⟨g, 0, none⟩) n cap) l' := by
  obtain ⟨h1, h2⟩ := h
  rcases h2 with ⟨e0, _⟩ | ⟨g', cap', cur, e0, hb, hh, hn, hm, hs, ht⟩
  · cases e0
  · injection e0 with e1 e2 e3
    injection e1 with e1
    injection e1 with e1
    subst e1; subst e3
    have hlt : g < w.heap.size := (Array.getElem?_eq_some_iff.1 hh).1
    refine ⟨by rw [cellsS_len], .inr ⟨g, cap, putCells id 0 (flatK encS 2 l'.toArray) cur, by rw [hl, e2], hb, ?_, by rw [hl]; exact hn, hm, by simpa [putCells] using hs, ?_⟩⟩
    · simp only [sortWorldK, grow, putRowK, putRow, mapBlock, Sort.ahead]
      rw [Array.getElem?_append_left (by simpa using hlt)]
      simp [Array.getElem?_modify, hh, onCells]
    · apply List.ext_getElem?
      intro j
      rw [List.getElem?_take, Array.getElem?_toList]
      by_cases hj : j < l'.length * 2
      · have hjc : j < cur.size := by omega
        rw [if_pos hj, cellsS_get _ _ hj]
        simp only [putCells, Array.getElem?_mapIdx, Array.getElem?_eq_getElem hjc, Option.map_some]
        rw [if_pos (by simp; omega), Nat.sub_zero, get_flatK _ _ _ _ (by simpa using hj)]
        simp
      · rw [if_neg hj, List.getElem?_eq_none (by rw [cellsS_len]; omega)]
theorem grownBy_sortedS {w : World} {g n : Nat} {os : Array Obj} (d : Array (Int × Int)) : w.grownBy (sortWorldK encS 2 w g 0 n d os) (some g) := by
  refine ⟨rfl, rfl, rfl, by simp [sortWorldK, grow, putRowK, putRow, mapBlock, Sort.ahead], fun k hk hne => ?_⟩
  have : g ≠ k := fun e => hne (by rw [e])
  simp only [sortWorldK, grow, putRowK, putRow, mapBlock, Sort.ahead]
  rw [Array.getElem?_append_left (by simpa using hk)]
  simp [Array.getElem?_modify, this]
def cfLo (x y : Int × Int) : Int := Lib.compareInt x.1 y.1
theorem ltLo (x y : Int × Int) : ltOf cfLo x y = decide (x.1 < y.1) := by
  unfold ltOf cfLo Lib.compareInt
  by_cases h1 : x.1 < y.1
  · simp [h1]
  · by_cases h2 : y.1 < x.1 <;> simp [h1, h2]
theorem swoLo : SWO (ltOf cfLo) where
  irrefl x := by rw [ltLo]; simp
  trans x y z h1 h2 := by rw [ltLo] at *; simp at *; omega
  ntrans x y z h1 h2 := by rw [ltLo] at *; simp at *; omega
theorem sort_eq {d L : List (Int × Int)} {d' : Array (Int × Int)} (hp : PermIn 0 d.length d.toArray d') (hs : SortedIn (ltOf cfLo) 0 d.length d') (hL : L.Perm d) (hLs : L.Pairwise (fun a b => a.1 ≤ b.1)) (hi : ∀ a ∈ L, ∀ b ∈ L, a.1 = b.1 → a = b) : d' = L.toArray := by
  obtain ⟨h1, _, h3⟩ := hp
  have hsz : d'.size = d.length := by simpa using h1
  have e1 : d'.extract 0 d.length = d' := by rw [← hsz]; simp
  have e2 : d.toArray.extract 0 d.length = d.toArray := by simp
  rw [e1, e2] at h3
  have h4 : d'.toList.Perm L := h3.trans hL.symm
  have : d'.toList = L := by
    refine List.Perm.eq_of_pairwise (le := fun a b => a.1 ≤ b.1) (fun a b ha hb l1 l2 => ?_) ?_ hLs h4
    · first
        | exact hi a (h4.mem_iff.1 ha) b (h4.mem_iff.1 hb) (by omega)
        | exact hi a (h4.mem_iff.1 ha) b hb (by omega)
    · rw [List.pairwise_iff_getElem]
      intro i j h5 h6 h7
      have h8 := hs i j (Nat.zero_le _) h7 (by simpa [hsz] using h6)
      rw [ltLo] at h8
      have g1 : i < d'.size := by simpa using h5
      have g2 : j < d'.size := by simpa using h6
      rw [getElem!_pos d' j g2, getElem!_pos d' i g1] at h8
      simp at h8 ⊢
      omega
  rw [← this]
end Go.Proofs.YtiohoiebnpdkbaaDoor
