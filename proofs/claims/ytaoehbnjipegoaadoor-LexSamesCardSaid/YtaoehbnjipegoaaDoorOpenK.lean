/- Lists of tokens that come in: opened. -/
import Derived.Test.YtaoehbnjipegoaaDoorLSames
import Derived.ProofKit
import Derived.OpenShut
import Derived.Lib.SmallJoins
import Derived.SizedLaws
import Derived.Deep.Slices
namespace Go.Proofs.YtaoehbnjipegoaaDoor
open Go.ChangeShapes Go.WideShapes Go.ChangeAt Go.RowKit Go.Joins Go.Deep
theorem cellsTok : Tryd.prog.cellsOf 32 = 6 := by kernel_rfl
theorem cellsInt6 : Tryd.prog.cellsOf 3 = 1 := by kernel_rfl
theorem cellsStr6 : Tryd.prog.cellsOf 9 = 1 := by kernel_rfl
instance : Inhabited Tok := ⟨tok0⟩
set_option maxRecDepth 100000 in
theorem open_toks {H : Type} {enc : TypeId × Value → H} {w : World} {r : Reach} {b0 base : Nat} {sp : Nat → Bool} {held : Bool} {v : Value} {d : DataW H} {p : List MemPlace}
    (hv : Value.okWide Tryd.prog w r b0 24 v) (h : DataW.Trod enc Tryd.prog w base sp held 24 v d p) : ∃ l, TksIs w v l ∧ l.length ≤ 9223372036854775807 := by
  obtain ⟨a0, len, cap, rfl⟩ := okWide_slice Tryd.underlying24 hv
  obtain ⟨fuel, hf⟩ := h
  rcases open_slice Tryd.underlying24 hf with ⟨hcs, _⟩ | ⟨a, len', cap', m, n, D, Pl, hcs, _, hl, hm, hmm, _, hx⟩
  · simp [Value.cells] at hcs
    obtain ⟨rfl, rfl, rfl⟩ := hcs
    exact ⟨[], ⟨none, 0, rfl, fun k hk => absurd hk (Nat.not_lt_zero _)⟩, Nat.zero_le _⟩
  · simp [Value.cells] at hcs
    obtain ⟨rfl, rfl, rfl⟩ := hcs
    have hlm : len ≤ m := by rw [hmm]; split <;> omega
    have hspot : 0 < len → a.spot = none := fun h0 => by
      obtain ⟨cs', h1, _⟩ := hx 0 (by omega)
      rw [cellsTok] at h1
      obtain ⟨_, hlen, hcell⟩ := World.cells?_some h1
      have e0 := hcell 0 (by omega)
      rw [List.getElem?_eq_getElem (by omega)] at e0
      have := World.cell?_spot e0
      simpa [Addr.add] using this
    have each : ∀ i, i < len → ∃ t : Tok, ∃ b o, a = ⟨b, o, none⟩ ∧ b < w.heap.size ∧
        w.cell? ⟨b, o + i * 6, none⟩ = some (.int .i64 t.kind) ∧ w.cell? ⟨b, o + i * 6 + 1, none⟩ = some (.int .i64 t.place) ∧ w.cell? ⟨b, o + i * 6 + 2, none⟩ = some (.string t.text) ∧
        w.cell? ⟨b, o + i * 6 + 3, none⟩ = some (.string t.repl) ∧ w.cell? ⟨b, o + i * 6 + 4, none⟩ = some (.string t.more) ∧ w.cell? ⟨b, o + i * 6 + 5, none⟩ = some (.int .i64 t.opn) := by
      intro i hi
      obtain ⟨cs', h1, h2⟩ := hx i (by omega)
      rw [cellsTok] at h1
      obtain ⟨_, hlen, hcell⟩ := World.cells?_some h1
      obtain ⟨xs, k, hk, hxy, _, hxl, hf⟩ := DataW.trod_struct Tryd.underlying32 h2
      match xs, hxl, cs', hlen with
      | [y0, y1, y2, y3, y4, y5], _, [v0, v1, v2, v3, v4, v5], _ =>
        have g0 := hf 0 _ rfl
        have g1 := hf 1 _ rfl
        have g2 := hf 2 _ rfl
        have g3 := hf 3 _ rfl
        have g4 := hf 4 _ rfl
        have g5 := hf 5 _ rfl
        simp [cellsInt6, cellsStr6] at g0 g1 g2 g3 g4 g5
        have e0 := hcell 0 (by omega)
        have e1 := hcell 1 (by omega)
        have e2 := hcell 2 (by omega)
        have e3 := hcell 3 (by omega)
        have e4 := hcell 4 (by omega)
        have e5 := hcell 5 (by omega)
        rw [add_add] at e0 e1 e2 e3 e4 e5
        obtain ⟨k0, q0, _, _⟩ := DataW.trod_int Tryd.underlying3 g0
        obtain ⟨k1, q1, _, _⟩ := DataW.trod_int Tryd.underlying3 g1
        obtain ⟨s2, q2, _, _⟩ := DataW.trod_string Tryd.underlying9 g2
        obtain ⟨s3, q3, _, _⟩ := DataW.trod_string Tryd.underlying9 g3
        obtain ⟨s4, q4, _, _⟩ := DataW.trod_string Tryd.underlying9 g4
        obtain ⟨k5, q5, _, _⟩ := DataW.trod_int Tryd.underlying3 g5
        simp only [List.cons.injEq, and_true] at q0 q1 q2 q3 q4 q5
        subst q0 q1 q2 q3 q4 q5
        simp only [List.getElem?_cons_zero, List.getElem?_cons_succ] at e0 e1 e2 e3 e4 e5
        have hs0 := hspot (by omega)
        obtain ⟨b, off, spot⟩ := a
        subst hs0
        rw [WideShapes.add_plain] at e0 e1 e2 e3 e4 e5
        simp only [Nat.add_zero, ← Nat.add_assoc] at e0 e1 e2 e3 e4 e5
        exact ⟨⟨k0, k1, s2, s3, s4, k5⟩, b, off, rfl, World.block_lt_of_cell? w _ e0, e0, e1, e2, e3, e4, e5⟩
    obtain ⟨f, hF⟩ := choose_lt each
    refine ⟨(List.range len).map f, ⟨some a, cap, by simp, fun k hk => ?_⟩, ?_⟩
    · have hk' : k < len := by simpa using hk
      obtain ⟨b, o, rfl, hb, hc⟩ := hF k hk'
      refine ⟨b, o, rfl, hb, ?_⟩
      simp only [List.getElem_map, List.getElem_range]
      exact hc
    · have : maxLen ≤ 9223372036854775807 := by decide
      simp
      omega
end Go.Proofs.YtaoehbnjipegoaaDoor
