/- The rows of a class. -/
import Derived.Test.YtiohoiebnpdkbaaDoorCRSpn
import Derived.Test.YtiohoiebnpdkbaaDoorCHas
import Derived.Outline
import Derived.Deep.DeepFit
import Derived.Maps.Own
import Derived.Maps.OwnOps
namespace Go.Proofs.YtiohoiebnpdkbaaDoor
open Go.RowKit Go.Shelf
open Go.ChangeMaps (setBlock heap_setBlock_same heap_setBlock_other)
/-- the map in block b has the entries es, and the call made it -/
structure MapIs (w0 W : World) (b : Nat) (es : List MapEntry) : Prop where
  lo : w0.heap.size ≤ b
  below : Below w0.heap.size w0 W
  map : W.heap[b]? = some (.map es.toArray es.length)
theorem MapIs.start (w : World) : MapIs w (w.alloc (.map #[] 0)) w.heap.size [] :=
  ⟨Nat.le_refl _, (Gr.refl w).alloc _, (MapKept.heap_alloc w _).1⟩
theorem run_checkKeyS (m : Bool) (k : ByteArray) (w : World) : (Instr.checkKey m 10000 9 (.string k)).run Tryd.prog w = .ok () w :=
  MapKept.run_checkKey Tryd.underlying9 (by simp [MapKept.IsKey]) m 9999
theorem run_insertS {w : World} {b : Nat} {es : Array MapEntry} {c : Nat} (hb : w.heap[b]? = some (.map es c)) (k : ByteArray) (v : Value) (hf : Instr.findNow .string (.string k) es.toList 0 = some none) :
    (Instr.mapUpdate 71 (.map (some b)) (.string k) v).run Tryd.prog w = .ok () (setBlock w b (.map (es.push ⟨.string k, v, c⟩) (c + 1))) := by
  simp [Instr.mapUpdate, run_underlying Tryd.underlying71, run_checkKeyS, MapKept.run_getObj_map hb, MapKept.run_findKey Tryd.underlying9 hf, MapKept.run_setObj_map _ hb, Result.andThen, setBlock]
theorem wpList_insert_m {w0 w : World} {ops : Array Oper} {rest : List Oper} {o : Oper} {a : Act} {Q : Exit → Act → World → Prop}
    (hg : o.guard = none) (m x v : Operand) (hop : o.op = Op.insert 71 m x v) {b : Nat} {es : List MapEntry} (hS : MapIs w0 w b es)
    (hm : a.eval m = .map (some b)) (k : ByteArray) (hx : a.eval x = .string k) (val : Value) (hv : a.eval v = val) (hf : Instr.findNow .string (.string k) es 0 = some none)
    (hK : ∀ w', MapIs w0 w' b (es ++ [⟨.string k, val, es.length⟩]) → wpList Tryd.prog ops Q rest (a.put o.dst undef) w') :
    wpList Tryd.prog ops Q (o :: rest) a w := by
  have hrun := run_insertS hS.map k val hf
  have hlt : b < w.heap.size := (Array.getElem?_eq_some_iff.1 hS.map).1
  have hk : w.grownBy (setBlock w b (.map (es.toArray.push ⟨.string k, val, es.length⟩) (es.length + 1))) (some b) := ⟨rfl, rfl, rfl, by simp [setBlock], fun i _ hi => heap_setBlock_other hS.map _ (fun e => hi (by rw [e]))⟩
  have hS' : MapIs w0 (setBlock w b (.map (es.toArray.push ⟨.string k, val, es.length⟩) (es.length + 1))) b (es ++ [⟨.string k, val, es.length⟩]) :=
    ⟨hS.lo, hS.below.grown hk (Nat.le_trans hS.lo (Nat.le_of_lt hlt)) (fun k hk => by cases hk; exact hS.lo), by
      rw [heap_setBlock_same hS.map _]; simp⟩
  refine wpList_plain hg fun K' hK' => ?_
  unfold Oper.wp
  simp [execOp, hop, hm, hx, hv, hrun, Result.andThen]
  refine hK' _ _ (hK _ ?_)
  simpa using hS'
def row_upper : List (Int × Int) := [(65, 90), (192, 214), (216, 222), (913, 929), (931, 937), (1040, 1071), (7838, 7838), (8490, 8491), (0, 0)]
def row_lower : List (Int × Int) := [(97, 122), (181, 181), (223, 246), (248, 255), (329, 329), (383, 383), (945, 969), (1072, 1103), (64256, 64262)]
def row_letter : List (Int × Int) := [(170, 170), (186, 186), (700, 700), (0, 0), (0, 0), (0, 0), (0, 0), (0, 0), (0, 0)]
def row_digit : List (Int × Int) := [(48, 57), (1632, 1641), (0, 0), (0, 0), (0, 0), (0, 0), (0, 0), (0, 0), (0, 0)]
def row_mark : List (Int × Int) := [(768, 879), (0, 0), (0, 0), (0, 0), (0, 0), (0, 0), (0, 0), (0, 0), (0, 0)]
def row_blank : List (Int × Int) := [(9, 13), (32, 32), (133, 133), (160, 160), (8232, 8233), (0, 0), (0, 0), (0, 0), (0, 0)]
def row_word : List (Int × Int) := [(95, 95), (0, 0), (0, 0), (0, 0), (0, 0), (0, 0), (0, 0), (0, 0), (0, 0)]
def row_any : List (Int × Int) := [(0, 55295), (57344, 1114111), (0, 0), (0, 0), (0, 0), (0, 0), (0, 0), (0, 0), (0, 0)]
def tabE : List MapEntry := [⟨.string ⟨#[117, 112, 112, 101, 114]⟩, rowV row_upper, 0⟩, ⟨.string ⟨#[108, 111, 119, 101, 114]⟩, rowV row_lower, 1⟩, ⟨.string ⟨#[108, 101, 116, 116, 101, 114]⟩, rowV row_letter, 2⟩, ⟨.string ⟨#[100, 105, 103, 105, 116]⟩, rowV row_digit, 3⟩, ⟨.string ⟨#[109, 97, 114, 107]⟩, rowV row_mark, 4⟩, ⟨.string ⟨#[98, 108, 97, 110, 107]⟩, rowV row_blank, 5⟩, ⟨.string ⟨#[119, 111, 114, 100]⟩, rowV row_word, 6⟩, ⟨.string ⟨#[97, 110, 121]⟩, rowV row_any, 7⟩]
theorem lookS {w : World} {b : Nat} {es : List MapEntry} {n : Nat} (hb : w.heap[b]? = some (.map es.toArray n)) (k : ByteArray) {i : Nat} {v : Value} (ok : Bool) (hf : Instr.findNow .string (.string k) es 0 = some (some (i, v))) :
    (Instr.lookup 71 (.map (some b)) (.string k) ok).run Tryd.prog w = .ok (if ok then .tuple #[v, .bool true] else v) w := by
  cases ok <;> simp [Instr.lookup, run_underlying Tryd.underlying71, run_checkKeyS, MapKept.run_getObj_map hb, MapKept.run_findKey Tryd.underlying9 hf, Result.andThen]
theorem lookS_none {w : World} {b : Nat} {es : List MapEntry} {n : Nat} (hb : w.heap[b]? = some (.map es.toArray n)) (k : ByteArray) (hf : Instr.findNow .string (.string k) es 0 = some none) :
    (Instr.lookup 71 (.map (some b)) (.string k) true).run Tryd.prog w = .ok (.tuple #[rowV (List.replicate 9 (0, 0)), .bool false]) w := by
  have hz : (zeroValue 49).run Tryd.prog w = .ok (rowV (List.replicate 9 (0, 0))) w := by kernel_rfl
  simp [Instr.lookup, run_underlying Tryd.underlying71, run_checkKeyS, MapKept.run_getObj_map hb, MapKept.run_findKey Tryd.underlying9 hf, Result.andThen, hz]
theorem find_none {s : ByteArray} (h : NoCl s) : Instr.findNow .string (.string s) tabE 0 = some none := by
  rcases MapKept.findNow_spec (d := .string) (k := .string s) (by simp [MapKept.IsKey]) tabE 0 (by simp [tabE, MapKept.IsKey]) with ⟨h1, _⟩ | ⟨j, e, _, h2, h3⟩
  · exact h1
  · exfalso
    obtain ⟨h0, h1, h2', h3', h4, h5, h6, h7⟩ := h
    have hm : e ∈ tabE := List.mem_of_getElem? h2
    simp only [tabE, List.mem_cons, List.not_mem_nil, or_false] at hm
    rcases hm with rfl | rfl | rfl | rfl | rfl | rfl | rfl | rfl
    all_goals (injection h3 with h3; first | exact h0 h3.symm | exact h1 h3.symm | exact h2' h3.symm | exact h3' h3.symm | exact h4 h3.symm | exact h5 h3.symm | exact h6 h3.symm | exact h7 h3.symm)
set_option maxRecDepth 100000 in
set_option maxHeartbeats 1000000 in
theorem rows_pn {s : ByteArray} (h : NoCl s) (w : World) : Calls Tryd.prog 26 #[.string s] w fun e w' => e = .returned (.tuple #[.slice none 0 0, .bool false]) ∧ Gr w w' := by
  have hmm := @run_makeMap Tryd.prog
  have hS0 := Lib.hid (MapIs.start w)
  have HN := Lib.hid (find_none h)
  have hlt0 : (w.alloc (.map #[] 0)).heap.size = w.heap.size + 1 := by simp
  clear h
  go_enter Tryd.func26, Tryd.ntmps26
  go_wp2_with (refine wpList_insert_m rfl _ _ _ rfl (es := tabE.take 0) hS0.out rfl ⟨#[117, 112, 112, 101, 114]⟩ rfl (rowV row_upper) rfl rfl ?_)
  intro W1 hS
  have hS1 : Hid (MapIs w W1 w.heap.size (tabE.take 1)) := Lib.hid hS
  clear hS hS0
  go_wp2_with (refine wpList_insert_m rfl _ _ _ rfl (es := tabE.take 1) hS1.out rfl ⟨#[108, 111, 119, 101, 114]⟩ rfl (rowV row_lower) rfl rfl ?_)
  intro W2 hS
  have hS2 : Hid (MapIs w W2 w.heap.size (tabE.take 2)) := Lib.hid hS
  clear hS hS1
  go_wp2_with (refine wpList_insert_m rfl _ _ _ rfl (es := tabE.take 2) hS2.out rfl ⟨#[108, 101, 116, 116, 101, 114]⟩ rfl (rowV row_letter) rfl rfl ?_)
  intro W3 hS
  have hS3 : Hid (MapIs w W3 w.heap.size (tabE.take 3)) := Lib.hid hS
  clear hS hS2
  go_wp2_with (refine wpList_insert_m rfl _ _ _ rfl (es := tabE.take 3) hS3.out rfl ⟨#[100, 105, 103, 105, 116]⟩ rfl (rowV row_digit) rfl rfl ?_)
  intro W4 hS
  have hS4 : Hid (MapIs w W4 w.heap.size (tabE.take 4)) := Lib.hid hS
  clear hS hS3
  go_wp2_with (refine wpList_insert_m rfl _ _ _ rfl (es := tabE.take 4) hS4.out rfl ⟨#[109, 97, 114, 107]⟩ rfl (rowV row_mark) rfl rfl ?_)
  intro W5 hS
  have hS5 : Hid (MapIs w W5 w.heap.size (tabE.take 5)) := Lib.hid hS
  clear hS hS4
  go_wp2_with (refine wpList_insert_m rfl _ _ _ rfl (es := tabE.take 5) hS5.out rfl ⟨#[98, 108, 97, 110, 107]⟩ rfl (rowV row_blank) rfl rfl ?_)
  intro W6 hS
  have hS6 : Hid (MapIs w W6 w.heap.size (tabE.take 6)) := Lib.hid hS
  clear hS hS5
  go_wp2_with (refine wpList_insert_m rfl _ _ _ rfl (es := tabE.take 6) hS6.out rfl ⟨#[119, 111, 114, 100]⟩ rfl (rowV row_word) rfl rfl ?_)
  intro W7 hS
  have hS7 : Hid (MapIs w W7 w.heap.size (tabE.take 7)) := Lib.hid hS
  clear hS hS6
  go_wp2_with (refine wpList_insert_m rfl _ _ _ rfl (es := tabE.take 7) hS7.out rfl ⟨#[97, 110, 121]⟩ rfl (rowV row_any) rfl rfl ?_)
  intro W8 hS
  have hS8 : Hid (MapIs w W8 w.heap.size (tabE.take 8)) := Lib.hid hS
  clear hS hS7
  have HL := Lib.hid (lookS_none hS8.out.map s HN.out)
  have hl : (Instr.lookup 71 (.map (some w.heap.size)) (.string s) true).run Tryd.prog W8 = .ok (.tuple #[.agg #[.int .i32 0, .int .i32 0, .int .i32 0, .int .i32 0, .int .i32 0, .int .i32 0, .int .i32 0, .int .i32 0, .int .i32 0, .int .i32 0, .int .i32 0, .int .i32 0, .int .i32 0, .int .i32 0, .int .i32 0, .int .i32 0, .int .i32 0, .int .i32 0], .bool false]) W8 := HL.out
  have hg := Lib.hid hS8.out.below
  clear HL hS8 HN
  go_wp2_with fail
  go_ret2
  exact ⟨rfl, Gr.alloc hg.out _⟩
end Go.Proofs.YtiohoiebnpdkbaaDoor
