/- The Builder, byte by byte; what it keeps. -/
import Derived.Test.YtaoehbnjipegoaaDoorLVar
namespace Go.Proofs.YtaoehbnjipegoaaDoor
open Go.RowKit Go.Shelf
def hl167_ren : Go.Shelf.Ren := ⟨fun | 167 => 38 | 240 => 46 | 276 => 56 | n => n, fun | 0 => 0 | 4 => 4 | 5 => 5 | 9 => 9 | 20 => 20 | 37 => 52 | 70 => 51 | 72 => 54 | 75 => 56 | 80 => 63 | 164 => 71 | n => n, fun | n => n⟩
theorem hl167 : Go.Proofs.Lays.n167 Tryd.prog hl167_ren := {
  mixed := by kernel_rfl
  f167 := Tryd.func38.trans (congrArg some (by kernel_rfl))
  f240 := Tryd.func46.trans (congrArg some (by kernel_rfl))
  f276 := Tryd.func56.trans (congrArg some (by kernel_rfl))
  t0 := Tryd.underlying0
  a0 := Tryd.isAgg0
  z0 := Tryd.sizeOf0
  v0 := Tryd.zeroValue0
  t4 := Tryd.underlying4
  a4 := Tryd.isAgg4
  z4 := Tryd.sizeOf4
  v4 := Tryd.zeroValue4
  t5 := Tryd.underlying5
  a5 := Tryd.isAgg5
  z5 := Tryd.sizeOf5
  v5 := Tryd.zeroValue5
  t9 := Tryd.underlying9
  a9 := Tryd.isAgg9
  z9 := Tryd.sizeOf9
  v9 := Tryd.zeroValue9
  t20 := Tryd.underlying20
  a20 := Tryd.isAgg20
  z20 := Tryd.sizeOf20
  v20 := Tryd.zeroValue20
  t37 := Tryd.underlying52
  a37 := Tryd.isAgg52
  z37 := Tryd.sizeOf52
  v37 := Tryd.zeroValue52
  t70 := Tryd.underlying51
  a70 := Tryd.isAgg51
  z70 := Tryd.sizeOf51
  v70 := Tryd.zeroValue51
  t72 := Tryd.underlying54
  a72 := Tryd.isAgg54
  z72 := Tryd.sizeOf54
  v72 := Tryd.zeroValue54
  t75 := Tryd.underlying56
  a75 := Tryd.isAgg56
  z75 := Tryd.sizeOf56
  v75 := Tryd.zeroValue56
  t164 := Tryd.underlying71
  a164 := Tryd.isAgg71
  z164 := Tryd.sizeOf71
  v164 := Tryd.zeroValue71 }
theorem extra167 : Builder.Extra Tryd.prog hl167_ren where
  sizeBuilder := by kernel_rfl
  liesBuilder := by kernel_rfl
  t5 := Tryd.underlying5
  a5 := Tryd.isAgg5
  z5 := Tryd.sizeOf5
  v5 := Tryd.zeroValue5
  infoByte := by kernel_rfl
  cellsByte := by kernel_rfl
  sizeByte := by kernel_rfl
  neB5 := by decide
theorem bld_byte {B : Nat} {l : List UInt8} (c : UInt8) {w : World} (h : Bld B l w) (hl : l.length + 1 ≤ 140737488355328) (hB : B ≤ w.heap.size) :
    Calls Tryd.prog 38 #[.pointer (some ⟨B, 0, none⟩), .int .u8 (c.toNat : Int)] w fun e w' => e = .returned .nilIface ∧ (Bld B (l ++ [c]) w' ∧ Below B w w' ∧ Oth B w w') :=
  (Any.Builder_WriteByte_k hl167 extra167 B B (Lib.byteCells l) (c.toNat : Int) w h (by rw [Lib.byteCells_length]; exact hl) hB).mono fun _ _ ⟨he, h1, h2, h3⟩ => ⟨he, by
    unfold Bld; rw [Lib.byteCells_append]; exact Or.inr h1, h2, h3⟩
theorem ownsRowF_same {w w' : World} {B : Nat} {e : TypeId} {size : Nat} {v : Value} {n : Nat} {xs : List Value} (h : w.ownsRowF B e size v n xs) (hb : ∀ k, B ≤ k → k < w.heap.size → w'.heap[k]? = w.heap[k]?) : w'.ownsRowF B e size v n xs := by
  obtain ⟨h1, h2⟩ := h
  refine ⟨h1, ?_⟩
  rcases h2 with h2 | ⟨g, h3⟩
  · exact .inl h2
  · obtain ⟨cap, cur, fz, e1, e2, e3, e4⟩ := h3
    exact .inr ⟨g, cap, cur, fz, e1, e2, by rw [hb g e2 (Array.getElem?_eq_some_iff.1 e3).1]; exact e3, e4⟩
theorem Bld.but {B P : Nat} {l : List UInt8} {w w' : World} (h : Bld B l w) (hP : P < B) (k : But P w w') : Bld B l w' := by
  have hk : ∀ i, B ≤ i → i < w.heap.size → w'.heap[i]? = w.heap[i]? := fun i h1 h2 => k.block i h2 (fun e => by injection e with e; omega)
  have hat : ∀ p, Lib.BuilderAtF 54 5 B B p (Lib.byteCells l) w → Lib.BuilderAtF 54 5 B B p (Lib.byteCells l) w' := fun p ⟨h1, v, h2, h3, h4⟩ =>
    ⟨h1, v, by rw [hk B (Nat.le_refl _) (Array.getElem?_eq_some_iff.1 h2).1]; exact h2, ownsRowF_same h3 hk, h4⟩
  exact h.elim (fun x => .inl (hat _ x)) (fun x => .inr (hat _ x))
end Go.Proofs.YtaoehbnjipegoaaDoor
