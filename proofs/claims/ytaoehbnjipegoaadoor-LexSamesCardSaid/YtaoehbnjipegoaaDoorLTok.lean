/- Tokens as values; the scanner's words. -/
import Derived.Test.YtaoehbnjipegoaaDoorLSc
import Derived.Laws.Tables
import Derived.Laws.ResultCell
namespace Go.Proofs.YtaoehbnjipegoaaDoor
open Go.RowKit Go.Shelf
/-- a token -/
structure Tok where
  kind : Int
  place : Int
  text : ByteArray
  repl : ByteArray
  more : ByteArray
  opn : Int
def Tok.cells (t : Tok) : List Value := [.int .i64 t.kind, .int .i64 t.place, .string t.text, .string t.repl, .string t.more, .int .i64 t.opn]
def Tok.val (t : Tok) : Value := .agg t.cells.toArray
def tok (k : Int) (t : ByteArray) : Tok := ⟨k, 0, t, ⟨#[]⟩, ⟨#[]⟩, 0⟩
theorem tokInfo : (Tryd.prog.info? 32).map (·.size) = some 6 := by kernel_rfl
theorem Tok.one (t : Tok) : t.cells.toArray.all (·.oneCell') = true := by simp [Tok.cells, Value.oneCell']
variable {w : World} {P M : Nat} {s : ByteArray} {at_ en : Nat} {tm : Bool} {tv bv ov : Value}
theorem But.late {w W W' : World} {g : Nat} (h : But P w W) (hg : w.heap.size ≤ g) (k : But g W W') : But P w W' :=
  ⟨k.os.trans h.os, k.tape.trans h.tape, k.output.trans h.output, Nat.le_trans h.size k.size, fun i hi hn => (k.block i (Nat.lt_of_lt_of_le hi h.size) (fun e => by injection e with e; omega)).trans (h.block i hi hn)⟩
theorem Sc.but {W W' : World} {g : Nat} (h : Sc W P M s at_ en tm tv bv ov) (k : But g W W') (h1 : P ≠ g) (h2 : M ≠ g) : Sc W' P M s at_ en tm tv bv ov :=
  ⟨by rw [k.block _ h.lt.1 (fun e => h1 (by injection e))]; exact h.blk, by rw [k.block _ h.lt.2 (fun e => h2 (by injection e))]; exact h.mp, h.ne⟩
theorem But.row {W : World} {g : Nat} {c : Array Value} {t : TypeId} {A : Array Value} (h : W.heap[g]? = some (.cells c t (0, 0))) : But g W (W.setRow g A) ∧ (W.setRow g A).heap[g]? = some (.cells A t (0, 0)) := by
  refine ⟨⟨rfl, rfl, rfl, by simp [World.setRow], fun k _ hn => ?_⟩, by simp [World.setRow, Array.getElem?_modify, h]⟩
  have : g ≠ k := fun e => hn (by rw [e])
  simp [World.setRow, Array.getElem?_modify, this]
/-- the store of a whole token -/
theorem wpList_store_tok {W : World} {ops : Array Oper} {rest : List Oper} {o : Oper} {a : Act} {Q : Exit → Act → World → Prop}
    (hg : o.guard = none) (x v : Operand) (hop : o.op = Op.store 32 x v) {g : Nat} {c : Array Value} {t : Tok} (hx : a.eval x = .pointer (some ⟨g, 0, none⟩)) (hv : a.eval v = t.val)
    (hb : W.heap[g]? = some (.cells c 32 (0, 0))) (hc : c.size = 6)
    (hK : ∀ W', But g W W' → W'.heap[g]? = some (.cells t.cells.toArray 32 (0, 0)) → wpList Tryd.prog ops Q rest (a.put o.dst undef) W') : wpList Tryd.prog ops Q (o :: rest) a W := by
  refine wpList_plain hg fun K' hK' => ?_
  have hrun : (Instr.storeAt 32 (.pointer (some ⟨g, 0, none⟩)) t.val).run Tryd.prog W = .ok () (W.setRow g t.cells.toArray) := by
    simp only [Instr.storeAt, Instr.sureAddr, Sem.run_bind, Sem.run_pure, Result.andThen, Tok.val]
    exact run_storeVar_row W g 32 32 c t.cells.toArray hb (by rw [tokInfo]; rfl) (by rw [hc]; rfl) t.one
  unfold Oper.wp
  simp [execOp, hop, hx, hv, hrun, Result.andThen]
  exact hK' _ _ (hK _ (But.row hb).1 (But.row hb).2)
/-- the result that lies in a cell -/
theorem results_tok {fn : Func} {p : Tmp} (h : fn.results = #[.cell p 32]) {tmps : Array Value} {W : World} {g : Nat} {t : Tok} (hp : tmps.getD p undef = .pointer (some ⟨g, 0, none⟩))
    (hg : W.heap[g]? = some (.cells t.cells.toArray 32 (0, 0))) : (results fn tmps).run Tryd.prog W = .ok t.val W :=
  results_cell_row h tmps W g 32 t.cells.toArray (0, 0) _ hp hg Tryd.underlying32 rfl (by rw [tokInfo]; rfl)
/-- the zero token -/
def zTok : Obj := .cells #[.int .i64 0, .int .i64 0, .string ⟨#[]⟩, .string ⟨#[]⟩, .string ⟨#[]⟩, .int .i64 0] 32
set_option maxRecDepth 100000 in
theorem word_m (h : Sc w P M s at_ en tm tv bv ov) (hat : at_ ≤ s.size) (n : Nat) (hw : wordN (s.data.toList.drop at_) = n) (hn : n ≤ 12) (hs : s.size ≤ 140737488351232) :
    Calls Tryd.prog 61 #[.pointer (some ⟨P, 0, none⟩)] w fun e w' => e = .returned (tok 0 (s.extract at_ (at_ + n))).val ∧ Sc w' P M s (at_ + n) en tm tv bv ov ∧ But P w w' := by
  obtain ⟨c0, c1, c2, c3, c4, c5, c6, c7, cf⟩ := h.cells
  have H := Lib.hid h
  have hln := wordN_le (s.data.toList.drop at_)
  rw [hw, List.length_drop, sizeL] at hln
  have HW := Lib.hid (fun w => word_p (s.extract at_ s.size) (by simp [ByteArray.size_extract]; omega) w)
  rw [dropE, hw] at HW
  have HT := Lib.hid (fun (W : World) (hS : Sc W P M s at_ en tm tv bv ov) => take_p hS n (by omega) hs)
  have b0 : (at_ : Int) ≤ (s.size : Int) := by omega
  have b1 : ¬ (n : Int) > 12 := by omega
  clear h hw hln hat
  go_enter Tryd.func61, Tryd.ntmps61
  go_wp2_with fail
  generalize hW : w.alloc (.cells #[.int .i64 0, .int .i64 0, .string ⟨#[]⟩, .string ⟨#[]⟩, .string ⟨#[]⟩, .int .i64 0] 32) = W1
  have G1 : Hid (Gr w W1) := Lib.hid (by rw [← hW]; exact (Gr.refl w).alloc _)
  have K1 : Hid (W1.heap[w.heap.size]? = some (.cells #[.int .i64 0, .int .i64 0, .string ⟨#[]⟩, .string ⟨#[]⟩, .string ⟨#[]⟩, .int .i64 0] 32 (0, 0))) := Lib.hid (by rw [← hW]; exact heap_alloc_new w _)
  clear hW c0 c1 c2 c3 c4 c5 c6 c7 cf
  obtain ⟨c0, c1, c2, c3, c4, c5, c6, c7, cf⟩ := (H.out.gr G1.out).cells
  go_quiet ((go_at_call 17; exact quiet_at (HW.out _)))
  go_wp2_with fail
  refine (HT.out _ (H.out.gr (G1.out.drewN _))).mono ?_
  rintro e w2 ⟨rfl, hS2, hb2⟩
  have hP : P < w.heap.size := H.out.lt.1
  have hM : M < w.heap.size := H.out.lt.2
  have K2 := Lib.hid ((hb2.block _ (Array.getElem?_eq_some_iff.1 K1.out).1 (by simp; omega)).trans K1.out)
  have B2 := Lib.hid ((But.of_gr (G1.out.drewN _)).trans hb2)
  have S2 := Lib.hid hS2
  clear hS2 hb2 K1 HT HW c0 c1 c2 c3 c4 c5 c6 c7 cf
  go_wp2_with (refine wpList_store_tok rfl (.tmp 2) (.tmp 24) rfl (t := tok 0 (s.extract at_ (at_ + n))) rfl rfl K2.out rfl ?_)
  intro W3 hb3 hk3
  have B3 := Lib.hid hb3
  have K3 := Lib.hid hk3
  clear hb3 hk3
  go_wp2_with fail
  refine bodyPost_ret (results_tok rfl rfl K3.out) rfl ?_
  exact ⟨rfl, S2.out.but B3.out (by omega) (by omega), B2.out.late (Nat.le_refl _) B3.out⟩
end Go.Proofs.YtaoehbnjipegoaaDoor
