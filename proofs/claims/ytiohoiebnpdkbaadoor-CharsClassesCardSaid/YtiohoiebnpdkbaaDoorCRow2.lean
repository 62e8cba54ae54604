/- The rows of a class. -/
import Derived.Test.YtiohoiebnpdkbaaDoorCRows
import Derived.Great.BuildSlice
import Derived.RegionTactic
import Derived.Deep.WholeRow
namespace Go.Proofs.YtiohoiebnpdkbaaDoor
open Go.RowKit Go.Shelf
theorem step_of {P : Program} {o : Oper} {ops : Array Oper} {a : Act} {w : World} {K : Act → World → Prop} {Q : Exit → Act → World → Prop} {E : Prop} (hg : o.guard = none) (h : Oper.wp P o a w K Q) :
    if Region.wanted o (yielded ops a.tmps) = true then Oper.wp P o a w K Q else E := by
  rw [if_pos (by simp [Region.wanted, hg])]; exact h
def cellsR (l : List (List (Int × Int))) : List Value := l.flatMap fun r => r.flatMap fun p => [.int .i32 p.1, .int .i32 p.2]
abbrev OwnR (w : World) (base : Nat) (v : Value) (l : List (List (Int × Int))) : Prop := w.ownsRow base 49 18 v l.length (cellsR l)
theorem infoRowZ : (Tryd.prog.info? 49).map (fun i => (i.zero, i.size, i.bytes)) = some (some (rowV (List.replicate 9 (0, 0))), 18, 72) := by kernel_rfl
theorem underRows : Tryd.prog.underlying 43 = some (.slice 49) := by kernel_rfl
theorem wp_make6 {o : Oper} {a : Act} {w : World} {K : Act → World → Prop} {Q : Exit → Act → World → Prop} (hop : o.op = Op.makeSlice 43 (.const (.int .i64 0)) (.const (.int .i64 6))) (base : Nat) (hb : base ≤ w.heap.size)
    (h : ∀ w', OwnR w' base (.slice (some ⟨w.heap.size, 0, none⟩) 0 6) [] → w.grownBy w' none → K (a.put o.dst (.slice (some ⟨w.heap.size, 0, none⟩) 0 6)) w') : o.wp Tryd.prog a w K Q := by
  obtain ⟨i, hi, hz, hs, hby⟩ := info_parts infoRowZ
  obtain ⟨w', hrun, h1, h2⟩ := run_make_own (P := Tryd.prog) w base _ _ i _ 18 underRows hi hz hs .i64 .i64 6 (by rw [hby]; decide) (by decide) hb
  have hrun' : (Instr.makeSlice 43 (.int .i64 0) (.int .i64 6)).run Tryd.prog w = .ok (.slice (some ⟨w.heap.size, 0, none⟩) 0 6) w' := hrun
  unfold Oper.wp
  simp [execOp, hop, Act.eval, hrun', Result.andThen]
  exact h w' h1 h2
theorem wp_load_row {o : Oper} {a : Act} {w : World} {K : Act → World → Prop} {Q : Exit → Act → World → Prop} (x : Operand) (hop : o.op = Op.load 49 x) {b off : Nat} {A : Array Value} (hx : a.eval x = .pointer (some ⟨b, off, none⟩))
    (hrun : (Instr.loadAt 49 (.pointer (some ⟨b, off, none⟩))).run Tryd.prog w = .ok (.agg A) w) (h : K (a.put o.dst (.agg A)) w) : o.wp Tryd.prog a w K Q := by
  unfold Oper.wp
  simp [execOp, hop, hx, hrun, Result.andThen]
  exact h
theorem wp_build1 {o : Oper} {a : Act} {w : World} {K : Act → World → Prop} {Q : Exit → Act → World → Prop} (x : Operand) (hop : o.op = Op.buildSlice 43 1 #[(0, x)]) {A : Array Value} (hx : a.eval x = .agg A) (hA : A.size = 18)
    (h : K (a.put o.dst (.slice (some ⟨w.heap.size, 0, none⟩) 1 1)) (w.alloc (.cells A 49))) : o.wp Tryd.prog a w K Q := by
  obtain ⟨i, hi, hz, hs, hby⟩ := info_parts infoRowZ
  refine wp_buildSlice _ _ 1 _ hop A i _ underRows hi hz (by rw [hs]; decide) (by rw [hs]; decide) ?_ h
  rw [hs]
  have := Great.fill_whole (s := 18) (by decide) [.agg A] ((Array.range (1 * 18)).map (fun x => (rowV (List.replicate 9 (0, 0))).cells[x % (rowV (List.replicate 9 (0, 0))).cells.size]!)) (fun v hv => by simp at hv; subst hv; simpa [Value.cells] using hA) (by simp)
  simp only [List.map_toArray, List.map_cons, List.map_nil, hx]
  have e : (List.flatMap (fun v : Value => v.cells.toList) [.agg A]).toArray = A := by simp [Value.cells]
  rw [e] at this
  exact this
theorem wp_assign {P : Program} {o : Oper} {a : Act} {w : World} {K : Act → World → Prop} {Q : Exit → Act → World → Prop} (x : Operand) (hop : o.op = Op.assign x) {v : Value} (hx : a.eval x = v) (h : K (a.put o.dst v) w) : o.wp P a w K Q := by
  unfold Oper.wp
  simp [execOp, hop, hx]
  exact h
theorem wp_build3 {o : Oper} {a : Act} {w : World} {K : Act → World → Prop} {Q : Exit → Act → World → Prop} (x0 x1 x2 : Operand) (hop : o.op = Op.buildSlice 43 3 #[(0, x0), (1, x1), (2, x2)]) {A0 A1 A2 : Array Value} (hx0 : a.eval x0 = .agg A0) (hA0 : A0.size = 18) (hx1 : a.eval x1 = .agg A1) (hA1 : A1.size = 18) (hx2 : a.eval x2 = .agg A2) (hA2 : A2.size = 18)
    (h : K (a.put o.dst (.slice (some ⟨w.heap.size, 0, none⟩) 3 3)) (w.alloc (.cells (A0.toList ++ A1.toList ++ A2.toList).toArray 49))) : o.wp Tryd.prog a w K Q := by
  obtain ⟨i, hi, hz, hs, hby⟩ := info_parts infoRowZ
  refine wp_buildSlice _ _ 3 _ hop (A0.toList ++ A1.toList ++ A2.toList).toArray i _ underRows hi hz (by rw [hs]; decide) (by rw [hs]; decide) ?_ h
  rw [hs]
  have := Great.fill_whole (s := 18) (by decide) [.agg A0, .agg A1, .agg A2] ((Array.range (3 * 18)).map (fun x => (rowV (List.replicate 9 (0, 0))).cells[x % (rowV (List.replicate 9 (0, 0))).cells.size]!)) (List.forall_mem_cons.2 ⟨hA0, List.forall_mem_cons.2 ⟨hA1, List.forall_mem_cons.2 ⟨hA2, fun _ h => absurd h List.not_mem_nil⟩⟩⟩) (by rw [Array.size_map, Array.size_range]; rfl)
  simp only [List.map_toArray, List.map_cons, List.map_nil, hx0, hx1, hx2]
  have e : (List.flatMap (fun v : Value => v.cells.toList) [.agg A0, .agg A1, .agg A2]).toArray = (A0.toList ++ A1.toList ++ A2.toList).toArray := by simp [Value.cells]
  rw [e] at this
  exact this
theorem wp_build2 {o : Oper} {a : Act} {w : World} {K : Act → World → Prop} {Q : Exit → Act → World → Prop} (x0 x1 : Operand) (hop : o.op = Op.buildSlice 43 2 #[(0, x0), (1, x1)]) {A0 A1 : Array Value} (hx0 : a.eval x0 = .agg A0) (hA0 : A0.size = 18) (hx1 : a.eval x1 = .agg A1) (hA1 : A1.size = 18)
    (h : K (a.put o.dst (.slice (some ⟨w.heap.size, 0, none⟩) 2 2)) (w.alloc (.cells (A0.toList ++ A1.toList).toArray 49))) : o.wp Tryd.prog a w K Q := by
  obtain ⟨i, hi, hz, hs, hby⟩ := info_parts infoRowZ
  refine wp_buildSlice _ _ 2 _ hop (A0.toList ++ A1.toList).toArray i _ underRows hi hz (by rw [hs]; decide) (by rw [hs]; decide) ?_ h
  rw [hs]
  have := Great.fill_whole (s := 18) (by decide) [.agg A0, .agg A1] ((Array.range (2 * 18)).map (fun x => (rowV (List.replicate 9 (0, 0))).cells[x % (rowV (List.replicate 9 (0, 0))).cells.size]!)) (List.forall_mem_cons.2 ⟨hA0, List.forall_mem_cons.2 ⟨hA1, fun _ h => absurd h List.not_mem_nil⟩⟩) (by rw [Array.size_map, Array.size_range]; rfl)
  simp only [List.map_toArray, List.map_cons, List.map_nil, hx0, hx1]
  have e : (List.flatMap (fun v : Value => v.cells.toList) [.agg A0, .agg A1]).toArray = (A0.toList ++ A1.toList).toArray := by simp [Value.cells]
  rw [e] at this
  exact this
theorem run_load_at {X : World} {g : Nat} {A : Array Value} {fr : Nat × Nat} (hg : X.heap[g]? = some (.cells A 49 fr)) (hA : A.size = 18) : (Instr.loadAt 49 (.pointer (some ⟨g, 0, none⟩))).run Tryd.prog X = .ok (.agg A) X := by
  simp only [Instr.loadAt, Instr.sureAddr, Sem.run_bind, Sem.run_pure, Result.andThen]
  exact run_loadVar_row X g _ _ A fr _ hg underRow rfl (by rw [infoRow, hA])
theorem wpList_store_row {w w' : World} {ops : Array Oper} {rest : List Oper} {o : Oper} {a : Act} {Q : Exit → Act → World → Prop}
    (hg : o.guard = none) (x v : Operand) (hop : o.op = Op.store 49 x v) {b off : Nat} {A : Array Value} (hx : a.eval x = .pointer (some ⟨b, off, none⟩)) (hv : a.eval v = .agg A)
    (hrun : (Instr.storeAt 49 (.pointer (some ⟨b, off, none⟩)) (.agg A)).run Tryd.prog w = .ok () w')
    (hK : wpList Tryd.prog ops Q rest (a.put o.dst undef) w') : wpList Tryd.prog ops Q (o :: rest) a w := by
  refine wpList_plain hg fun K' hK' => ?_
  unfold Oper.wp
  simp [execOp, hop, hx, hv, hrun, Result.andThen]
  exact hK' _ _ hK
theorem newCells (X : World) (A : Array Value) (t : TypeId) (j : Nat) (u : Value) (h : A.toList[j]? = some u) : (X.alloc (.cells A t)).cell? ((⟨X.heap.size, 0, none⟩ : Addr).add j) = some u := by
  rw [Addr.add_lit, cell_of_row _ _ _ A t (0, 0) (heap_alloc_last X _), Nat.zero_add]
  simpa using h
theorem newCellsL (X : World) (l : List Value) (t : TypeId) (j : Nat) (u : Value) (h : l[j]? = some u) : (X.alloc (.cells l.toArray t)).cell? ((⟨X.heap.size, 0, none⟩ : Addr).add j) = some u := newCells X l.toArray t j u (by simpa using h)
theorem oneOf {A : Array Value} (h : A.all (·.oneCell') = true) : ∀ u ∈ A.toList, u.oneCell' = true := by
  rw [← Array.all_toList, List.all_eq_true] at h; exact h
theorem cellsR_app (l m : List (List (Int × Int))) : cellsR (l ++ m) = cellsR l ++ cellsR m := by simp [cellsR]
theorem lookAt {W0 w0 W : World} (h : W0.heap[w0.heap.size]? = some (.map tabE.toArray 8)) (hlt : w0.heap.size < W0.heap.size) (hg : Gr W0 W) {k : ByteArray} {r : List (Int × Int)} {i : Nat} (hf : Instr.findNow .string (.string k) tabE 0 = some (some (i, rowV r))) {A : Array Value} (hA : rowV r = .agg A) :
    (Instr.lookup 71 (.map (some w0.heap.size)) (.string k) false).run Tryd.prog W = .ok (.agg A) W := by
  have := lookS (by rw [hg.block _ hlt]; exact h) k false hf
  rw [hA] at this
  exact this
theorem ownsRow_mono {w : World} {b b' : Nat} {e : TypeId} {size : Nat} {v : Value} {n : Nat} {xs : List Value} (h : w.ownsRow b e size v n xs) (hb : b' ≤ b) : w.ownsRow b' e size v n xs := by
  obtain ⟨h1, h2⟩ := h
  refine ⟨h1, ?_⟩
  rcases h2 with h2 | ⟨g, cap, cur, h3, h4, h5⟩
  · exact .inl h2
  · exact .inr ⟨g, cap, cur, h3, Nat.le_trans hb h4, h5⟩
def extraR (b1 b2 : Bool) : List (List (Int × Int)) := (if b1 then [row_letter, row_digit, row_mark] else []) ++ (if b1 || b2 then [row_upper, row_lower] else [])
theorem rowA_facts {l : List (Int × Int)} (hl : l.length = 9) : ∃ A : Array Value, rowV l = .agg A ∧ A.size = 18 ∧ A.toList = cellsR [l] ∧ A.all (·.oneCell') = true := by
  refine ⟨_, rfl, ?_, by simp [cellsR], ?_⟩
  · match l, hl with
    | [(a0, b0), (a1, b1), (a2, b2), (a3, b3), (a4, b4), (a5, b5), (a6, b6), (a7, b7), (a8, b8)], _ => rfl
  · rw [← Array.all_toList, List.all_flatMap]
    simp [Value.oneCell']
set_option maxRecDepth 100000 in
set_option maxHeartbeats 2000000 in
theorem rows_p {s : ByteArray} {own : List (Int × Int)} {i : Nat} {b1 b2 : Bool} (hf : Instr.findNow .string (.string s) tabE 0 = some (some (i, rowV own))) (hl : own.length = 9)
    (h1 : (s.toList == [119, 111, 114, 100]) = b1) (h2 : (s.toList == [108, 101, 116, 116, 101, 114]) = b2) (w : World) :
    Calls Tryd.prog 26 #[.string s] w fun e w' => ∃ v, e = .returned (.tuple #[v, .bool true]) ∧ OwnR w' w.heap.size v (own :: extraR b1 b2) ∧ Gr w w' := by
  have hmm := @run_makeMap Tryd.prog
  have hS0 := Lib.hid (MapIs.start w)
  have HF := Lib.hid hf
  obtain ⟨A, hA, hA2, hA3, hA4⟩ := rowA_facts hl
  have HA := Lib.hid hA
  have HA2 := Lib.hid hA2
  have HA3 := Lib.hid hA3
  have HA4 := Lib.hid hA4
  have hlt0 : (w.alloc (.map #[] 0)).heap.size = w.heap.size + 1 := by simp
  clear hf hA hA2 hA3 hA4 hl
  go_enter Tryd.func26, Tryd.ntmps26
  go_wp2_with (refine wpList_insert_m rfl _ _ _ rfl (es := tabE.take 0) hS0.out rfl ⟨#[117, 112, 112, 101, 114]⟩ rfl (rowV row_upper) rfl rfl ?_)
  intro W1 hS
  have hS1 : Hid (MapIs w W1 w.heap.size (tabE.take 1)) := Lib.hid hS
  clear hS hS0
  go_wp2_with (refine wpList_insert_m rfl _ _ _ rfl (es := tabE.take 1) hS1.out rfl ⟨#[108, 111, 119, 101, 114]⟩ rfl (rowV row_lower) rfl rfl ?_)
  intro W2 hS
  have hS2 : Hid (MapIs w W2 w.heap.size (tabE.take 2)) := Lib.hid hS
  clear hS hS1
  go_wp2_with (refine wpList_insert_m rfl _ _ _ rfl (es := tabE.take 2) hS2.out rfl ⟨#[108, 101, 116, 116, 101, 114]⟩ rfl (rowV row_letter) rfl rfl ?_)
  intro W3 hS
  have hS3 : Hid (MapIs w W3 w.heap.size (tabE.take 3)) := Lib.hid hS
  clear hS hS2
  go_wp2_with (refine wpList_insert_m rfl _ _ _ rfl (es := tabE.take 3) hS3.out rfl ⟨#[100, 105, 103, 105, 116]⟩ rfl (rowV row_digit) rfl rfl ?_)
  intro W4 hS
  have hS4 : Hid (MapIs w W4 w.heap.size (tabE.take 4)) := Lib.hid hS
  clear hS hS3
  go_wp2_with (refine wpList_insert_m rfl _ _ _ rfl (es := tabE.take 4) hS4.out rfl ⟨#[109, 97, 114, 107]⟩ rfl (rowV row_mark) rfl rfl ?_)
  intro W5 hS
  have hS5 : Hid (MapIs w W5 w.heap.size (tabE.take 5)) := Lib.hid hS
  clear hS hS4
  go_wp2_with (refine wpList_insert_m rfl _ _ _ rfl (es := tabE.take 5) hS5.out rfl ⟨#[98, 108, 97, 110, 107]⟩ rfl (rowV row_blank) rfl rfl ?_)
  intro W6 hS
  have hS6 : Hid (MapIs w W6 w.heap.size (tabE.take 6)) := Lib.hid hS
  clear hS hS5
  go_wp2_with (refine wpList_insert_m rfl _ _ _ rfl (es := tabE.take 6) hS6.out rfl ⟨#[119, 111, 114, 100]⟩ rfl (rowV row_word) rfl rfl ?_)
  intro W7 hS
  have hS7 : Hid (MapIs w W7 w.heap.size (tabE.take 7)) := Lib.hid hS
  clear hS hS6
  go_wp2_with (refine wpList_insert_m rfl _ _ _ rfl (es := tabE.take 7) hS7.out rfl ⟨#[97, 110, 121]⟩ rfl (rowV row_any) rfl rfl ?_)
  intro W8 hS
  have hS8 : Hid (MapIs w W8 w.heap.size (tabE.take 8)) := Lib.hid hS
  clear hS hS7
  have HL := Lib.hid (lookS hS8.out.map s true HF.out)
  rw [HA.out] at HL
  have hl : (Instr.lookup 71 (.map (some w.heap.size)) (.string s) true).run Tryd.prog W8 = .ok (.tuple #[.agg A, .bool true]) W8 := HL.out
  have hM : Hid (W8.heap[w.heap.size]? = some (.map tabE.toArray 8)) := Lib.hid hS8.out.map
  have hg := Lib.hid hS8.out.below
  clear HL hS8 HF hmm hlt0
  have hst := Lib.hid (run_storeAt_new (P := Tryd.prog) W8 49 (List.replicate 18 (.int .i32 0)).toArray A (by rw [infoRow, HA2.out]) (by rw [HA2.out]; rfl) HA4.out)
  go_wp2_with (refine wpList_store_row rfl (.tmp 5) (.tmp 53) rfl rfl rfl hst.out ?_)
  have hlt8 : w.heap.size < W8.heap.size := (Array.getElem?_eq_some_iff.1 hM.out).1
  obtain ⟨W9, hW9⟩ : ∃ W9, W9 = W8.alloc (.cells A 49) := ⟨_, rfl⟩
  have hC : Hid (W9.heap[W8.heap.size]? = some (.cells A 49 (0, 0))) := Lib.hid (by rw [hW9]; exact heap_alloc_last W8 _)
  have hM9 : Hid (W9.heap[w.heap.size]? = some (.map tabE.toArray 8)) := Lib.hid (by rw [hW9, ((Gr.refl W8).alloc _).block _ hlt8]; exact hM.out)
  have hg9 : Hid (Gr w W9) := Lib.hid (by rw [hW9]; exact Gr.alloc hg.out _)
  have hlt9 : W8.heap.size < W9.heap.size := (Array.getElem?_eq_some_iff.1 hC.out).1
  rw [← hW9]
  clear hW9 hM hg hst
  refine wp_region_any (by kernel_rfl) ?_
  change wpAny _ _ _ _ _ _ _ (World.drew _)
  refine wpAny_ready (rs := [0, 1]) (by kernel_rfl) (by simp) ?_
  obtain ⟨i0, hi0, hz0, hz1, hz2⟩ := info_parts infoRowZ
  have hgd : Hid (Gr W9 W9.drew) := Lib.hid ((Gr.refl W9).drew)
  obtain ⟨AL, hAL, hAL2, hAL3, hAL4⟩ := rowA_facts (l := row_letter) rfl
  have HAL2 := Lib.hid hAL2
  have HAL3 := Lib.hid hAL3.symm
  have HAL4 := Lib.hid hAL4
  clear hAL2 hAL3 hAL4
  obtain ⟨AD, hAD, hAD2, hAD3, hAD4⟩ := rowA_facts (l := row_digit) rfl
  have HAD2 := Lib.hid hAD2
  have HAD3 := Lib.hid hAD3.symm
  have HAD4 := Lib.hid hAD4
  clear hAD2 hAD3 hAD4
  obtain ⟨AM, hAM, hAM2, hAM3, hAM4⟩ := rowA_facts (l := row_mark) rfl
  have HAM2 := Lib.hid hAM2
  have HAM3 := Lib.hid hAM3.symm
  have HAM4 := Lib.hid hAM4
  clear hAM2 hAM3 hAM4
  obtain ⟨AU, hAU, hAU2, hAU3, hAU4⟩ := rowA_facts (l := row_upper) rfl
  have HAU2 := Lib.hid hAU2
  have HAU3 := Lib.hid hAU3.symm
  have HAU4 := Lib.hid hAU4
  clear hAU2 hAU3 hAU4
  obtain ⟨AW, hAW, hAW2, hAW3, hAW4⟩ := rowA_facts (l := row_lower) rfl
  have HAW2 := Lib.hid hAW2
  have HAW3 := Lib.hid hAW3.symm
  have HAW4 := Lib.hid hAW4
  clear hAW2 hAW3 hAW4
  have hltw : w.heap.size < W9.heap.size := Nat.lt_trans hlt8 hlt9
  refine AllReady.cons rfl (fun K hK => step_of rfl (wp_make6 rfl W9.heap.size (Nat.le_refl _) fun w1 hr1 hb1 => hK _ _ ?_)) (AllReady.cons rfl (fun K hK => step_of rfl (wp_load_row (.tmp 5) rfl rfl (run_load_at hC.out HA2.out) (hK _ _ ?_))) AllReady.nil)
  · clear hK K
    have Hr1 := Lib.hid hr1
    have hg1 : Hid (Gr W9 w1) := Lib.hid (Below.grown hgd.out hb1 (Nat.le_refl _) (fun k hk => by cases hk))
    have hs1 : Hid (W9.heap.size ≤ W9.drew.heap.size) := Lib.hid hgd.out.size
    clear hr1 hb1
    refine wpAny_ready (rs := [1]) (by kernel_rfl) (by simp) ?_
    refine AllReady.cons rfl (fun K hK => step_of rfl (wp_load_row (.tmp 5) rfl rfl (run_load_at (by rw [hg1.out.block _ hlt9]; exact hC.out) HA2.out) (hK _ _ ?_))) AllReady.nil
    clear hK K
    refine wpAny_ready (rs := [2]) (by kernel_rfl) (by simp) ?_
    refine AllReady.cons rfl (fun K hK => step_of rfl (wp_build1 (.tmp 58) rfl rfl HA2.out (hK _ _ ?_))) AllReady.nil
    clear hK K
    refine wpAny_ready (rs := [3]) (by kernel_rfl) (by simp) ?_
    refine AllReady.cons rfl (fun K hK => step_of rfl (wp_append_own (w1.alloc (.cells A 49)) (.tmp 57) (.tmp 59) 43 rfl W9.heap.size 49 i0 (rowV (List.replicate 9 (0, 0))) 18 72 underRows hi0 hz0 hz1 hz2 rfl (by decide) _ 0 [] rfl (Hr1.out.alloc _) ⟨w1.heap.size, 0, none⟩ 1 1 A.toList rfl (by simpa using HA2.out) (newCells _ _ _) (oneOf HA4.out) (by decide) (by decide) (hg1.out.alloc _).size fun v2 w2 hr2 hb2 _ => hK _ _ ?_)) AllReady.nil
    clear hK K
    have Hr : Hid (OwnR w2 W9.heap.size v2 [own]) := Lib.hid (by have := hr2; rw [List.nil_append, HA3.out] at this; exact this)
    have Hg : Hid (Gr W9 w2) := Lib.hid (Below.grown (hg1.out.alloc _) hb2 (hg1.out.alloc _).size (fun k hk => by cases hk; first | exact hs1.out | exact Nat.le_refl _))
    clear hr2 hb2
    refine wpAny_ready (rs := [4]) (by kernel_rfl) (by simp) ?_
    refine AllReady.cons rfl (fun K hK => step_of rfl (wp_assign (.tmp 60) rfl rfl (hK _ _ ?_))) AllReady.nil
    clear hK K
    refine wpAny_done (by kernel_rfl) ?_ _
    clear Hr1 hg1
    cases b1
    · cases b2
      · go_wp2
        go_ret2
        exact ⟨_, rfl, ownsRow_mono Hr.out hg9.out.size, hg9.out.trans Hg.out⟩
      · have l4 := lookAt hM9.out hltw Hg.out (k := ⟨#[117, 112, 112, 101, 114]⟩) (r := row_upper) rfl hAU
        have l5 := lookAt hM9.out hltw Hg.out (k := ⟨#[108, 111, 119, 101, 114]⟩) (r := row_lower) rfl hAW
        go_wp2_with (first | (refine wpList_plain rfl fun _ hK => wp_build2 (.tmp 80) (.tmp 82) rfl rfl HAU2.out rfl HAW2.out (hK _ _ ?_)) | (at_builtin; refine wpList_append_own _ rfl (.tmp 78) (.tmp 83) 43 rfl W9.heap.size 49 i0 (rowV (List.replicate 9 (0, 0))) 18 72 underRows hi0 hz0 hz1 hz2 rfl (by decide) _ 1 _ rfl (Hr.out.alloc _) ⟨w2.heap.size, 0, none⟩ 2 2 (AU.toList ++ AW.toList) rfl (by rw [List.length_append, Array.length_toList, Array.length_toList, HAU2.out, HAW2.out]) (newCellsL _ _ _) (fun u hu => (List.mem_append.1 hu).elim (oneOf HAU4.out u) (oneOf HAW4.out u)) (by decide) (by decide) (Hg.out.alloc _).size ?_))
        intro v4 w4 hr4 hb4 _
        have Hr4 : Hid (OwnR w4 W9.heap.size v4 ([own] ++ [row_upper, row_lower])) := Lib.hid (by
          have e : cellsR ([own] ++ [row_upper, row_lower]) = cellsR ([own]) ++ (AU.toList ++ AW.toList) := by
            rw [cellsR_app, show cellsR [row_upper, row_lower] = cellsR [row_upper] ++ cellsR [row_lower] from cellsR_app [row_upper] [row_lower], HAU3.out, HAW3.out]
          show World.ownsRow _ _ _ _ _ _ _
          rw [e]; exact hr4)
        have Hg4 : Hid (Gr W9 w4) := Lib.hid (Below.grown (Hg.out.alloc _) hb4 (Hg.out.alloc _).size (fun k hk => (Hr.out.lt k hk).1))
        clear hr4 hb4 l4 l5 Hr Hg
        go_wp2
        go_ret2
        exact ⟨_, rfl, ownsRow_mono Hr4.out hg9.out.size, hg9.out.trans Hg4.out⟩
    · have l1 := lookAt hM9.out hltw Hg.out (k := ⟨#[108, 101, 116, 116, 101, 114]⟩) (r := row_letter) rfl hAL
      have l2 := lookAt hM9.out hltw Hg.out (k := ⟨#[100, 105, 103, 105, 116]⟩) (r := row_digit) rfl hAD
      have l3 := lookAt hM9.out hltw Hg.out (k := ⟨#[109, 97, 114, 107]⟩) (r := row_mark) rfl hAM
      go_wp2_with (first | (refine wpList_plain rfl fun _ hK => wp_build3 (.tmp 65) (.tmp 67) (.tmp 69) rfl rfl HAL2.out rfl HAD2.out rfl HAM2.out (hK _ _ ?_)) | (at_builtin; refine wpList_append_own _ rfl (.tmp 63) (.tmp 70) 43 rfl W9.heap.size 49 i0 (rowV (List.replicate 9 (0, 0))) 18 72 underRows hi0 hz0 hz1 hz2 rfl (by decide) _ 1 _ rfl (Hr.out.alloc _) ⟨w2.heap.size, 0, none⟩ 3 3 (AL.toList ++ AD.toList ++ AM.toList) rfl (by rw [List.length_append, List.length_append, Array.length_toList, Array.length_toList, Array.length_toList, HAL2.out, HAD2.out, HAM2.out]) (newCellsL _ _ _) (fun u hu => (List.mem_append.1 hu).elim (fun hu => (List.mem_append.1 hu).elim (oneOf HAL4.out u) (oneOf HAD4.out u)) (oneOf HAM4.out u)) (by decide) (by decide) (Hg.out.alloc _).size ?_))
      intro v3 w3 hr3 hb3 _
      have Hr3 : Hid (OwnR w3 W9.heap.size v3 ([own] ++ [row_letter, row_digit, row_mark])) := Lib.hid (by
        have e : cellsR ([own] ++ [row_letter, row_digit, row_mark]) = cellsR [own] ++ (AL.toList ++ AD.toList ++ AM.toList) := by
          rw [cellsR_app, show cellsR [row_letter, row_digit, row_mark] = cellsR [row_letter] ++ cellsR [row_digit] ++ cellsR [row_mark] from by rw [← cellsR_app, ← cellsR_app]; rfl, HAL3.out, HAD3.out, HAM3.out]
        show World.ownsRow _ _ _ _ _ _ _
        rw [e, List.append_assoc]; exact hr3)
      have Hg3 : Hid (Gr W9 w3) := Lib.hid (Below.grown (Hg.out.alloc _) hb3 (Hg.out.alloc _).size (fun k hk => (Hr.out.lt k hk).1))
      clear hr3 hb3 l1 l2 l3 Hr Hg
      have l4 := lookAt hM9.out hltw Hg3.out (k := ⟨#[117, 112, 112, 101, 114]⟩) (r := row_upper) rfl hAU
      have l5 := lookAt hM9.out hltw Hg3.out (k := ⟨#[108, 111, 119, 101, 114]⟩) (r := row_lower) rfl hAW
      go_wp2_with (first | (refine wpList_plain rfl fun _ hK => wp_build2 (.tmp 80) (.tmp 82) rfl rfl HAU2.out rfl HAW2.out (hK _ _ ?_)) | (at_builtin; refine wpList_append_own _ rfl (.tmp 78) (.tmp 83) 43 rfl W9.heap.size 49 i0 (rowV (List.replicate 9 (0, 0))) 18 72 underRows hi0 hz0 hz1 hz2 rfl (by decide) _ 4 _ rfl (Hr3.out.alloc _) ⟨w3.heap.size, 0, none⟩ 2 2 (AU.toList ++ AW.toList) rfl (by rw [List.length_append, Array.length_toList, Array.length_toList, HAU2.out, HAW2.out]) (newCellsL _ _ _) (fun u hu => (List.mem_append.1 hu).elim (oneOf HAU4.out u) (oneOf HAW4.out u)) (by decide) (by decide) (Hg3.out.alloc _).size ?_))
      intro v4 w4 hr4 hb4 _
      have Hr4 : Hid (OwnR w4 W9.heap.size v4 ([own] ++ [row_letter, row_digit, row_mark] ++ [row_upper, row_lower])) := Lib.hid (by
        have e : cellsR ([own] ++ [row_letter, row_digit, row_mark] ++ [row_upper, row_lower]) = cellsR ([own] ++ [row_letter, row_digit, row_mark]) ++ (AU.toList ++ AW.toList) := by
          rw [cellsR_app, show cellsR [row_upper, row_lower] = cellsR [row_upper] ++ cellsR [row_lower] from cellsR_app [row_upper] [row_lower], HAU3.out, HAW3.out]
        show World.ownsRow _ _ _ _ _ _ _
        rw [e]; exact hr4)
      have Hg4 : Hid (Gr W9 w4) := Lib.hid (Below.grown (Hg3.out.alloc _) hb4 (Hg3.out.alloc _).size (fun k hk => (Hr3.out.lt k hk).1))
      clear hr4 hb4 l4 l5 Hr3 Hg3
      go_wp2
      go_ret2
      exact ⟨_, rfl, ownsRow_mono Hr4.out hg9.out.size, hg9.out.trans Hg4.out⟩
  · clear hK K
    refine wpAny_ready (rs := [0, 2]) (by kernel_rfl) (by simp) ?_
    refine AllReady.cons rfl (fun K hK => step_of rfl (wp_make6 rfl W9.heap.size (Nat.le_refl _) fun w1 hr1 hb1 => hK _ _ ?_)) (AllReady.cons rfl (fun K hK => step_of rfl (wp_build1 (.tmp 58) rfl rfl HA2.out (hK _ _ ?_))) AllReady.nil)
    · clear hK K
      have Hr1 := Lib.hid hr1
      have hg1 : Hid (Gr W9 w1) := Lib.hid (Below.grown hgd.out hb1 (Nat.le_refl _) (fun k hk => by cases hk))
      have hs1 : Hid (W9.heap.size ≤ W9.drew.heap.size) := Lib.hid hgd.out.size
      clear hr1 hb1
      refine wpAny_ready (rs := [2]) (by kernel_rfl) (by simp) ?_
      refine AllReady.cons rfl (fun K hK => step_of rfl (wp_build1 (.tmp 58) rfl rfl HA2.out (hK _ _ ?_))) AllReady.nil
      clear hK K
      refine wpAny_ready (rs := [3]) (by kernel_rfl) (by simp) ?_
      refine AllReady.cons rfl (fun K hK => step_of rfl (wp_append_own (w1.alloc (.cells A 49)) (.tmp 57) (.tmp 59) 43 rfl W9.heap.size 49 i0 (rowV (List.replicate 9 (0, 0))) 18 72 underRows hi0 hz0 hz1 hz2 rfl (by decide) _ 0 [] rfl (Hr1.out.alloc _) ⟨w1.heap.size, 0, none⟩ 1 1 A.toList rfl (by simpa using HA2.out) (newCells _ _ _) (oneOf HA4.out) (by decide) (by decide) (hg1.out.alloc _).size fun v2 w2 hr2 hb2 _ => hK _ _ ?_)) AllReady.nil
      clear hK K
      have Hr : Hid (OwnR w2 W9.heap.size v2 [own]) := Lib.hid (by have := hr2; rw [List.nil_append, HA3.out] at this; exact this)
      have Hg : Hid (Gr W9 w2) := Lib.hid (Below.grown (hg1.out.alloc _) hb2 (hg1.out.alloc _).size (fun k hk => by cases hk; first | exact hs1.out | exact Nat.le_refl _))
      clear hr2 hb2
      refine wpAny_ready (rs := [4]) (by kernel_rfl) (by simp) ?_
      refine AllReady.cons rfl (fun K hK => step_of rfl (wp_assign (.tmp 60) rfl rfl (hK _ _ ?_))) AllReady.nil
      clear hK K
      refine wpAny_done (by kernel_rfl) ?_ _
      clear Hr1 hg1
      cases b1
      · cases b2
        · go_wp2
          go_ret2
          exact ⟨_, rfl, ownsRow_mono Hr.out hg9.out.size, hg9.out.trans Hg.out⟩
        · have l4 := lookAt hM9.out hltw Hg.out (k := ⟨#[117, 112, 112, 101, 114]⟩) (r := row_upper) rfl hAU
          have l5 := lookAt hM9.out hltw Hg.out (k := ⟨#[108, 111, 119, 101, 114]⟩) (r := row_lower) rfl hAW
          go_wp2_with (first | (refine wpList_plain rfl fun _ hK => wp_build2 (.tmp 80) (.tmp 82) rfl rfl HAU2.out rfl HAW2.out (hK _ _ ?_)) | (at_builtin; refine wpList_append_own _ rfl (.tmp 78) (.tmp 83) 43 rfl W9.heap.size 49 i0 (rowV (List.replicate 9 (0, 0))) 18 72 underRows hi0 hz0 hz1 hz2 rfl (by decide) _ 1 _ rfl (Hr.out.alloc _) ⟨w2.heap.size, 0, none⟩ 2 2 (AU.toList ++ AW.toList) rfl (by rw [List.length_append, Array.length_toList, Array.length_toList, HAU2.out, HAW2.out]) (newCellsL _ _ _) (fun u hu => (List.mem_append.1 hu).elim (oneOf HAU4.out u) (oneOf HAW4.out u)) (by decide) (by decide) (Hg.out.alloc _).size ?_))
          intro v4 w4 hr4 hb4 _
          have Hr4 : Hid (OwnR w4 W9.heap.size v4 ([own] ++ [row_upper, row_lower])) := Lib.hid (by
            have e : cellsR ([own] ++ [row_upper, row_lower]) = cellsR ([own]) ++ (AU.toList ++ AW.toList) := by
              rw [cellsR_app, show cellsR [row_upper, row_lower] = cellsR [row_upper] ++ cellsR [row_lower] from cellsR_app [row_upper] [row_lower], HAU3.out, HAW3.out]
            show World.ownsRow _ _ _ _ _ _ _
            rw [e]; exact hr4)
          have Hg4 : Hid (Gr W9 w4) := Lib.hid (Below.grown (Hg.out.alloc _) hb4 (Hg.out.alloc _).size (fun k hk => (Hr.out.lt k hk).1))
          clear hr4 hb4 l4 l5 Hr Hg
          go_wp2
          go_ret2
          exact ⟨_, rfl, ownsRow_mono Hr4.out hg9.out.size, hg9.out.trans Hg4.out⟩
      · have l1 := lookAt hM9.out hltw Hg.out (k := ⟨#[108, 101, 116, 116, 101, 114]⟩) (r := row_letter) rfl hAL
        have l2 := lookAt hM9.out hltw Hg.out (k := ⟨#[100, 105, 103, 105, 116]⟩) (r := row_digit) rfl hAD
        have l3 := lookAt hM9.out hltw Hg.out (k := ⟨#[109, 97, 114, 107]⟩) (r := row_mark) rfl hAM
        go_wp2_with (first | (refine wpList_plain rfl fun _ hK => wp_build3 (.tmp 65) (.tmp 67) (.tmp 69) rfl rfl HAL2.out rfl HAD2.out rfl HAM2.out (hK _ _ ?_)) | (at_builtin; refine wpList_append_own _ rfl (.tmp 63) (.tmp 70) 43 rfl W9.heap.size 49 i0 (rowV (List.replicate 9 (0, 0))) 18 72 underRows hi0 hz0 hz1 hz2 rfl (by decide) _ 1 _ rfl (Hr.out.alloc _) ⟨w2.heap.size, 0, none⟩ 3 3 (AL.toList ++ AD.toList ++ AM.toList) rfl (by rw [List.length_append, List.length_append, Array.length_toList, Array.length_toList, Array.length_toList, HAL2.out, HAD2.out, HAM2.out]) (newCellsL _ _ _) (fun u hu => (List.mem_append.1 hu).elim (fun hu => (List.mem_append.1 hu).elim (oneOf HAL4.out u) (oneOf HAD4.out u)) (oneOf HAM4.out u)) (by decide) (by decide) (Hg.out.alloc _).size ?_))
        intro v3 w3 hr3 hb3 _
        have Hr3 : Hid (OwnR w3 W9.heap.size v3 ([own] ++ [row_letter, row_digit, row_mark])) := Lib.hid (by
          have e : cellsR ([own] ++ [row_letter, row_digit, row_mark]) = cellsR [own] ++ (AL.toList ++ AD.toList ++ AM.toList) := by
            rw [cellsR_app, show cellsR [row_letter, row_digit, row_mark] = cellsR [row_letter] ++ cellsR [row_digit] ++ cellsR [row_mark] from by rw [← cellsR_app, ← cellsR_app]; rfl, HAL3.out, HAD3.out, HAM3.out]
          show World.ownsRow _ _ _ _ _ _ _
          rw [e, List.append_assoc]; exact hr3)
        have Hg3 : Hid (Gr W9 w3) := Lib.hid (Below.grown (Hg.out.alloc _) hb3 (Hg.out.alloc _).size (fun k hk => (Hr.out.lt k hk).1))
        clear hr3 hb3 l1 l2 l3 Hr Hg
        have l4 := lookAt hM9.out hltw Hg3.out (k := ⟨#[117, 112, 112, 101, 114]⟩) (r := row_upper) rfl hAU
        have l5 := lookAt hM9.out hltw Hg3.out (k := ⟨#[108, 111, 119, 101, 114]⟩) (r := row_lower) rfl hAW
        go_wp2_with (first | (refine wpList_plain rfl fun _ hK => wp_build2 (.tmp 80) (.tmp 82) rfl rfl HAU2.out rfl HAW2.out (hK _ _ ?_)) | (at_builtin; refine wpList_append_own _ rfl (.tmp 78) (.tmp 83) 43 rfl W9.heap.size 49 i0 (rowV (List.replicate 9 (0, 0))) 18 72 underRows hi0 hz0 hz1 hz2 rfl (by decide) _ 4 _ rfl (Hr3.out.alloc _) ⟨w3.heap.size, 0, none⟩ 2 2 (AU.toList ++ AW.toList) rfl (by rw [List.length_append, Array.length_toList, Array.length_toList, HAU2.out, HAW2.out]) (newCellsL _ _ _) (fun u hu => (List.mem_append.1 hu).elim (oneOf HAU4.out u) (oneOf HAW4.out u)) (by decide) (by decide) (Hg3.out.alloc _).size ?_))
        intro v4 w4 hr4 hb4 _
        have Hr4 : Hid (OwnR w4 W9.heap.size v4 ([own] ++ [row_letter, row_digit, row_mark] ++ [row_upper, row_lower])) := Lib.hid (by
          have e : cellsR ([own] ++ [row_letter, row_digit, row_mark] ++ [row_upper, row_lower]) = cellsR ([own] ++ [row_letter, row_digit, row_mark]) ++ (AU.toList ++ AW.toList) := by
            rw [cellsR_app, show cellsR [row_upper, row_lower] = cellsR [row_upper] ++ cellsR [row_lower] from cellsR_app [row_upper] [row_lower], HAU3.out, HAW3.out]
          show World.ownsRow _ _ _ _ _ _ _
          rw [e]; exact hr4)
        have Hg4 : Hid (Gr W9 w4) := Lib.hid (Below.grown (Hg3.out.alloc _) hb4 (Hg3.out.alloc _).size (fun k hk => (Hr3.out.lt k hk).1))
        clear hr4 hb4 l4 l5 Hr3 Hg3
        go_wp2
        go_ret2
        exact ⟨_, rfl, ownsRow_mono Hr4.out hg9.out.size, hg9.out.trans Hg4.out⟩
    · clear hK K
      refine wpAny_ready (rs := [0]) (by kernel_rfl) (by simp) ?_
      refine AllReady.cons rfl (fun K hK => step_of rfl (wp_make6 rfl W9.heap.size (hgd.out.alloc _).size fun w1 hr1 hb1 => hK _ _ ?_)) AllReady.nil
      clear hK K
      have Hr1 := Lib.hid hr1
      have hgA : Hid (Gr W9 (W9.drew.alloc (.cells A 49))) := Lib.hid (hgd.out.alloc _)
      have hg1 : Hid (Gr W9 w1) := Lib.hid (Below.grown hgA.out hb1 hgA.out.size (fun k hk => by cases hk))
      have hs1 : Hid (W9.heap.size ≤ (W9.drew.alloc (.cells A 49)).heap.size) := Lib.hid hgA.out.size
      have hcl : Hid (∀ (j : Nat) (u : Value), A.toList[j]? = some u → w1.cell? ((⟨W9.drew.heap.size, 0, none⟩ : Addr).add j) = some u) := Lib.hid (fun j u h => by
        have h2 := newCells W9.drew A 49 j u h
        rw [Addr.add_lit] at h2 ⊢
        rw [World.cell?_of_block (w := W9.drew.alloc (.cells A 49)) (hb1.block _ (by simp) (by simp))]
        exact h2)
      clear hr1 hb1
      refine wpAny_ready (rs := [3]) (by kernel_rfl) (by simp) ?_
      refine AllReady.cons rfl (fun K hK => step_of rfl (wp_append_own w1 (.tmp 57) (.tmp 59) 43 rfl W9.heap.size 49 i0 (rowV (List.replicate 9 (0, 0))) 18 72 underRows hi0 hz0 hz1 hz2 rfl (by decide) _ 0 [] rfl Hr1.out ⟨W9.drew.heap.size, 0, none⟩ 1 1 A.toList rfl (by simpa using HA2.out) hcl.out (oneOf HA4.out) (by decide) (by decide) (hg1.out).size fun v2 w2 hr2 hb2 _ => hK _ _ ?_)) AllReady.nil
      clear hK K
      have Hr : Hid (OwnR w2 W9.heap.size v2 [own]) := Lib.hid (by have := hr2; rw [List.nil_append, HA3.out] at this; exact this)
      have Hg : Hid (Gr W9 w2) := Lib.hid (Below.grown (hg1.out) hb2 (hg1.out).size (fun k hk => by cases hk; first | exact hs1.out | exact Nat.le_refl _))
      clear hr2 hb2
      refine wpAny_ready (rs := [4]) (by kernel_rfl) (by simp) ?_
      refine AllReady.cons rfl (fun K hK => step_of rfl (wp_assign (.tmp 60) rfl rfl (hK _ _ ?_))) AllReady.nil
      clear hK K
      refine wpAny_done (by kernel_rfl) ?_ _
      clear Hr1 hg1
      cases b1
      · cases b2
        · go_wp2
          go_ret2
          exact ⟨_, rfl, ownsRow_mono Hr.out hg9.out.size, hg9.out.trans Hg.out⟩
        · have l4 := lookAt hM9.out hltw Hg.out (k := ⟨#[117, 112, 112, 101, 114]⟩) (r := row_upper) rfl hAU
          have l5 := lookAt hM9.out hltw Hg.out (k := ⟨#[108, 111, 119, 101, 114]⟩) (r := row_lower) rfl hAW
          go_wp2_with (first | (refine wpList_plain rfl fun _ hK => wp_build2 (.tmp 80) (.tmp 82) rfl rfl HAU2.out rfl HAW2.out (hK _ _ ?_)) | (at_builtin; refine wpList_append_own _ rfl (.tmp 78) (.tmp 83) 43 rfl W9.heap.size 49 i0 (rowV (List.replicate 9 (0, 0))) 18 72 underRows hi0 hz0 hz1 hz2 rfl (by decide) _ 1 _ rfl (Hr.out.alloc _) ⟨w2.heap.size, 0, none⟩ 2 2 (AU.toList ++ AW.toList) rfl (by rw [List.length_append, Array.length_toList, Array.length_toList, HAU2.out, HAW2.out]) (newCellsL _ _ _) (fun u hu => (List.mem_append.1 hu).elim (oneOf HAU4.out u) (oneOf HAW4.out u)) (by decide) (by decide) (Hg.out.alloc _).size ?_))
          intro v4 w4 hr4 hb4 _
          have Hr4 : Hid (OwnR w4 W9.heap.size v4 ([own] ++ [row_upper, row_lower])) := Lib.hid (by
            have e : cellsR ([own] ++ [row_upper, row_lower]) = cellsR ([own]) ++ (AU.toList ++ AW.toList) := by
              rw [cellsR_app, show cellsR [row_upper, row_lower] = cellsR [row_upper] ++ cellsR [row_lower] from cellsR_app [row_upper] [row_lower], HAU3.out, HAW3.out]
            show World.ownsRow _ _ _ _ _ _ _
            rw [e]; exact hr4)
          have Hg4 : Hid (Gr W9 w4) := Lib.hid (Below.grown (Hg.out.alloc _) hb4 (Hg.out.alloc _).size (fun k hk => (Hr.out.lt k hk).1))
          clear hr4 hb4 l4 l5 Hr Hg
          go_wp2
          go_ret2
          exact ⟨_, rfl, ownsRow_mono Hr4.out hg9.out.size, hg9.out.trans Hg4.out⟩
      · have l1 := lookAt hM9.out hltw Hg.out (k := ⟨#[108, 101, 116, 116, 101, 114]⟩) (r := row_letter) rfl hAL
        have l2 := lookAt hM9.out hltw Hg.out (k := ⟨#[100, 105, 103, 105, 116]⟩) (r := row_digit) rfl hAD
        have l3 := lookAt hM9.out hltw Hg.out (k := ⟨#[109, 97, 114, 107]⟩) (r := row_mark) rfl hAM
        go_wp2_with (first | (refine wpList_plain rfl fun _ hK => wp_build3 (.tmp 65) (.tmp 67) (.tmp 69) rfl rfl HAL2.out rfl HAD2.out rfl HAM2.out (hK _ _ ?_)) | (at_builtin; refine wpList_append_own _ rfl (.tmp 63) (.tmp 70) 43 rfl W9.heap.size 49 i0 (rowV (List.replicate 9 (0, 0))) 18 72 underRows hi0 hz0 hz1 hz2 rfl (by decide) _ 1 _ rfl (Hr.out.alloc _) ⟨w2.heap.size, 0, none⟩ 3 3 (AL.toList ++ AD.toList ++ AM.toList) rfl (by rw [List.length_append, List.length_append, Array.length_toList, Array.length_toList, Array.length_toList, HAL2.out, HAD2.out, HAM2.out]) (newCellsL _ _ _) (fun u hu => (List.mem_append.1 hu).elim (fun hu => (List.mem_append.1 hu).elim (oneOf HAL4.out u) (oneOf HAD4.out u)) (oneOf HAM4.out u)) (by decide) (by decide) (Hg.out.alloc _).size ?_))
        intro v3 w3 hr3 hb3 _
        have Hr3 : Hid (OwnR w3 W9.heap.size v3 ([own] ++ [row_letter, row_digit, row_mark])) := Lib.hid (by
          have e : cellsR ([own] ++ [row_letter, row_digit, row_mark]) = cellsR [own] ++ (AL.toList ++ AD.toList ++ AM.toList) := by
            rw [cellsR_app, show cellsR [row_letter, row_digit, row_mark] = cellsR [row_letter] ++ cellsR [row_digit] ++ cellsR [row_mark] from by rw [← cellsR_app, ← cellsR_app]; rfl, HAL3.out, HAD3.out, HAM3.out]
          show World.ownsRow _ _ _ _ _ _ _
          rw [e, List.append_assoc]; exact hr3)
        have Hg3 : Hid (Gr W9 w3) := Lib.hid (Below.grown (Hg.out.alloc _) hb3 (Hg.out.alloc _).size (fun k hk => (Hr.out.lt k hk).1))
        clear hr3 hb3 l1 l2 l3 Hr Hg
        have l4 := lookAt hM9.out hltw Hg3.out (k := ⟨#[117, 112, 112, 101, 114]⟩) (r := row_upper) rfl hAU
        have l5 := lookAt hM9.out hltw Hg3.out (k := ⟨#[108, 111, 119, 101, 114]⟩) (r := row_lower) rfl hAW
        go_wp2_with (first | (refine wpList_plain rfl fun _ hK => wp_build2 (.tmp 80) (.tmp 82) rfl rfl HAU2.out rfl HAW2.out (hK _ _ ?_)) | (at_builtin; refine wpList_append_own _ rfl (.tmp 78) (.tmp 83) 43 rfl W9.heap.size 49 i0 (rowV (List.replicate 9 (0, 0))) 18 72 underRows hi0 hz0 hz1 hz2 rfl (by decide) _ 4 _ rfl (Hr3.out.alloc _) ⟨w3.heap.size, 0, none⟩ 2 2 (AU.toList ++ AW.toList) rfl (by rw [List.length_append, Array.length_toList, Array.length_toList, HAU2.out, HAW2.out]) (newCellsL _ _ _) (fun u hu => (List.mem_append.1 hu).elim (oneOf HAU4.out u) (oneOf HAW4.out u)) (by decide) (by decide) (Hg3.out.alloc _).size ?_))
        intro v4 w4 hr4 hb4 _
        have Hr4 : Hid (OwnR w4 W9.heap.size v4 ([own] ++ [row_letter, row_digit, row_mark] ++ [row_upper, row_lower])) := Lib.hid (by
          have e : cellsR ([own] ++ [row_letter, row_digit, row_mark] ++ [row_upper, row_lower]) = cellsR ([own] ++ [row_letter, row_digit, row_mark]) ++ (AU.toList ++ AW.toList) := by
            rw [cellsR_app, show cellsR [row_upper, row_lower] = cellsR [row_upper] ++ cellsR [row_lower] from cellsR_app [row_upper] [row_lower], HAU3.out, HAW3.out]
          show World.ownsRow _ _ _ _ _ _ _
          rw [e]; exact hr4)
        have Hg4 : Hid (Gr W9 w4) := Lib.hid (Below.grown (Hg3.out.alloc _) hb4 (Hg3.out.alloc _).size (fun k hk => (Hr3.out.lt k hk).1))
        clear hr4 hb4 l4 l5 Hr3 Hg3
        go_wp2
        go_ret2
        exact ⟨_, rfl, ownsRow_mono Hr4.out hg9.out.size, hg9.out.trans Hg4.out⟩
end Go.Proofs.YtiohoiebnpdkbaaDoor
