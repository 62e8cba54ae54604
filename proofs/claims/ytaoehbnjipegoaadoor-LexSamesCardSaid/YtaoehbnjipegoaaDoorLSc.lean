/- The program's scanner as it lies in memory; its smallest methods. -/
import Derived.Test.YtaoehbnjipegoaaDoorLWord
import Derived.Maps.Own
import Derived.Maps.OwnOps
namespace Go.Proofs.YtaoehbnjipegoaaDoor
open Go.RowKit Go.Shelf
/-- the scanner in block P, its map in block M -/
structure Sc (w : World) (P M : Nat) (s : ByteArray) (at_ en : Nat) (tm : Bool) (tv bv ov : Value) : Prop where
  blk : w.heap[P]? = some (.cells #[.string s, .int .i64 at_, .int .i64 en, .bool tm, tv, bv, ov, .map (some M)] 47 (0, 0))
  mp : w.heap[M]? = some (.map #[] 0)
  ne : M ≠ P
/-- all blocks but P stand as they stood -/
abbrev But (P : Nat) (w w' : World) : Prop := w.grownBy w' (some P)
theorem But.refl (P : Nat) (w : World) : But P w w := ⟨rfl, rfl, rfl, Nat.le_refl _, fun _ _ _ => rfl⟩
theorem But.trans {P : Nat} {a b c : World} (h : But P a b) (k : But P b c) : But P a c :=
  ⟨k.os.trans h.os, k.tape.trans h.tape, k.output.trans h.output, Nat.le_trans h.size k.size, fun i hi hn => (k.block i (Nat.lt_of_lt_of_le hi h.size) hn).trans (h.block i hi hn)⟩
theorem But.of_gr {P : Nat} {a b : World} (h : Gr a b) : But P a b := ⟨h.os, h.tape, h.output, h.size, fun k hk _ => h.block k hk⟩
theorem But.set {P : Nat} {w : World} (j : Nat) (v : Value) : But P w (w.setCell ⟨P, j, none⟩ v) :=
  ⟨rfl, rfl, rfl, by simp [World.setCell], fun k _ hn => by
    have : P ≠ k := fun e => hn (by rw [e])
    simp [World.setCell, Array.getElem?_modify, this]⟩
variable {w : World} {P M : Nat} {s : ByteArray} {at_ en : Nat} {tm : Bool} {tv bv ov : Value}
theorem Sc.lt (h : Sc w P M s at_ en tm tv bv ov) : P < w.heap.size ∧ M < w.heap.size := ⟨(Array.getElem?_eq_some_iff.1 h.blk).1, (Array.getElem?_eq_some_iff.1 h.mp).1⟩
theorem Sc.cells (h : Sc w P M s at_ en tm tv bv ov) : w.cell? ⟨P, 0, none⟩ = some (.string s) ∧ w.cell? ⟨P, 1, none⟩ = some (.int .i64 at_) ∧ w.cell? ⟨P, 2, none⟩ = some (.int .i64 en) ∧ w.cell? ⟨P, 3, none⟩ = some (.bool tm) ∧
    w.cell? ⟨P, 4, none⟩ = some tv ∧ w.cell? ⟨P, 5, none⟩ = some bv ∧ w.cell? ⟨P, 6, none⟩ = some ov ∧ w.cell? ⟨P, 7, none⟩ = some (.map (some M)) ∧ ∀ j, w.frozen? ⟨P, j, none⟩ = false := by
  simp [World.cell?, World.frozen?, h.blk]
theorem Sc.gr {w' : World} (h : Sc w P M s at_ en tm tv bv ov) (g : Gr w w') : Sc w' P M s at_ en tm tv bv ov :=
  ⟨by rw [g.block _ h.lt.1]; exact h.blk, by rw [g.block _ h.lt.2]; exact h.mp, h.ne⟩
theorem Sc.setAt (h : Sc w P M s at_ en tm tv bv ov) (x : Nat) : Sc (w.setCell ⟨P, 1, none⟩ (.int .i64 x)) P M s x en tm tv bv ov :=
  ⟨by simp [World.setCell, Array.getElem?_modify, h.blk], by simp [World.setCell, Array.getElem?_modify, Ne.symm h.ne, h.mp], h.ne⟩
theorem Sc.setEn (h : Sc w P M s at_ en tm tv bv ov) (x : Nat) : Sc (w.setCell ⟨P, 2, none⟩ (.int .i64 x)) P M s at_ x tm tv bv ov :=
  ⟨by simp [World.setCell, Array.getElem?_modify, h.blk], by simp [World.setCell, Array.getElem?_modify, Ne.symm h.ne, h.mp], h.ne⟩
theorem Sc.setTm (h : Sc w P M s at_ en tm tv bv ov) (x : Bool) : Sc (w.setCell ⟨P, 3, none⟩ (.bool x)) P M s at_ en x tv bv ov :=
  ⟨by simp [World.setCell, Array.getElem?_modify, h.blk], by simp [World.setCell, Array.getElem?_modify, Ne.symm h.ne, h.mp], h.ne⟩
theorem Sc.setTv (h : Sc w P M s at_ en tm tv bv ov) (x : Value) : Sc (w.setCell ⟨P, 4, none⟩ x) P M s at_ en tm x bv ov :=
  ⟨by simp [World.setCell, Array.getElem?_modify, h.blk], by simp [World.setCell, Array.getElem?_modify, Ne.symm h.ne, h.mp], h.ne⟩
theorem Sc.setBv (h : Sc w P M s at_ en tm tv bv ov) (x : Value) : Sc (w.setCell ⟨P, 5, none⟩ x) P M s at_ en tm tv x ov :=
  ⟨by simp [World.setCell, Array.getElem?_modify, h.blk], by simp [World.setCell, Array.getElem?_modify, Ne.symm h.ne, h.mp], h.ne⟩
theorem run_checkKeyI (m : Bool) (x : Int) (w : World) : (Instr.checkKey m 10000 3 (.int .i64 x)).run Tryd.prog w = .ok () w :=
  MapKept.run_checkKey Tryd.underlying3 (by simp [MapKept.IsKey]) m 9999
/-- the empty map has no place -/
theorem look_none {W : World} (h : W.heap[M]? = some (.map #[] 0)) (x : Int) : (Instr.lookup 45 (.map (some M)) (.int .i64 x) true).run Tryd.prog W = .ok (.tuple #[.int .i64 0, .bool false]) W := by
  have hf : Instr.findNow (.int .i64) (.int .i64 x) [] 0 = some none := rfl
  have hz : (zeroValue 3).run Tryd.prog W = .ok (.int .i64 0) W := by kernel_rfl
  simp [Instr.lookup, run_underlying Tryd.underlying45, run_checkKeyI, MapKept.run_getObj_map h, MapKept.run_findKey Tryd.underlying3 hf, Result.andThen, hz]
set_option maxRecDepth 100000 in
theorem step_p (h : Sc w P M s at_ en tm tv bv ov) (hb : at_ ≤ 140737488351232) : Calls Tryd.prog 52 #[.pointer (some ⟨P, 0, none⟩)] w fun e w' => e = .returned (.tuple #[]) ∧ Sc w' P M s (at_ + 1) en tm tv bv ov ∧ But P w w' := by
  obtain ⟨c0, c1, c2, c3, c4, c5, c6, c7, cf⟩ := h.cells
  have H := Lib.hid h
  have hlk : ∀ q : Nat, (Instr.lookup 45 (.map (some M)) (.int .i64 (at_ : Int)) true).run Tryd.prog (w.drewN q) = .ok (.tuple #[.int .i64 0, .bool false]) (w.drewN q) := fun q => look_none (W := w.drewN q) h.mp _
  have b0 : (at_ : Int) + 1 ≤ 9223372036854775807 := by omega
  have b1 : -9223372036854775808 ≤ (at_ : Int) + 1 := by omega
  clear h
  go_enter Tryd.func52, Tryd.ntmps52
  go_wp2_with fail
  go_quiet (fail)
  go_wp2_with fail
  go_end0
  exact ⟨rfl, (H.out.gr ((Gr.refl w).drewN _)).setAt (at_ + 1), (But.of_gr ((Gr.refl w).drewN _)).trans (But.set 1 _)⟩
theorem extractE (s : ByteArray) (a b : Nat) : (s.extract a b).data.toList = (s.data.toList.drop a).take (b - a) := by simp [List.take_drop]
set_option maxRecDepth 100000 in
theorem take_p (h : Sc w P M s at_ en tm tv bv ov) (n : Nat) (hn : at_ + n ≤ s.size) (hs : s.size ≤ 140737488351232) :
    Calls Tryd.prog 73 #[.pointer (some ⟨P, 0, none⟩), .int .i64 n] w fun e w' => e = .returned (.string (s.extract at_ (at_ + n))) ∧ Sc w' P M s (at_ + n) en tm tv bv ov ∧ But P w w' := by
  obtain ⟨c0, c1, c2, c3, c4, c5, c6, c7, cf⟩ := h.cells
  have H := Lib.hid h
  obtain ⟨m, hm⟩ : ∃ m, m = at_ + n := ⟨_, rfl⟩
  have hm' : (at_ : Int) + (n : Int) = (m : Int) := by omega
  have b0 : (m : Int) ≤ 9223372036854775807 := by omega
  have b1 : (m : Int) ≤ (s.size : Int) := by omega
  have b2 : (at_ : Int) ≤ (m : Int) := by omega
  rw [← hm]
  clear h hm hn
  go_enter Tryd.func73, Tryd.ntmps73
  go_wp2_with fail
  go_quiet (fail)
  go_wp2_with fail
  go_ret
  exact ⟨rfl, (H.out.gr ((Gr.refl w).drewN _)).setAt m, (But.of_gr ((Gr.refl w).drewN _)).trans (But.set 1 _)⟩
end Go.Proofs.YtaoehbnjipegoaaDoor
