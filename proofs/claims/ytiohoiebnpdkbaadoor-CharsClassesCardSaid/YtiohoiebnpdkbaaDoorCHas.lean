/- The rows' spans one by one: whether a character is in one, and all of them. -/
import Derived.Test.YtiohoiebnpdkbaaDoorCRef3
import Derived.Deep.WholeRow
namespace Go.Proofs.YtiohoiebnpdkbaaDoor
open Go.RowKit Go.Shelf
/-- a row of nine spans, as a value -/
def rowV (l : List (Int × Int)) : Value := .agg (l.flatMap fun p => [.int .i32 p.1, .int .i32 p.2]).toArray
theorem rowAgg (W : World) : (isAgg 49).run Tryd.prog W = .ok true W := by kernel_rfl
theorem rowSize (W : World) : (sizeOf 49).run Tryd.prog W = .ok 18 W := by kernel_rfl
def zeroP (p : Int × Int) : Bool := p.1 == 0 && p.2 == 0
def inP (c : Int) (p : Int × Int) : Bool := !zeroP p && (decide (p.1 ≤ c) && decide (c ≤ p.2))
def hasB (l : List (Int × Int)) (c : Int) : Bool := l.any (inP c)
def nzL (l : List (Int × Int)) : List (Int × Int) := l.filter fun p => !zeroP p
def left9 : Value → Nat
  | .int _ c => (9 - c).toNat
  | _ => 0
theorem idx0 (a0 b0 a1 b1 a2 b2 a3 b3 a4 b4 a5 b5 a6 b6 a7 b7 a8 b8 : Int) (w : World) : (Instr.index 49 (rowV [(a0, b0), (a1, b1), (a2, b2), (a3, b3), (a4, b4), (a5, b5), (a6, b6), (a7, b7), (a8, b8)]) (.int .i64 0)).run Tryd.prog w = .ok (.agg #[.int .i32 a0, .int .i32 b0]) w := by kernel_rfl
theorem idx1 (a0 b0 a1 b1 a2 b2 a3 b3 a4 b4 a5 b5 a6 b6 a7 b7 a8 b8 : Int) (w : World) : (Instr.index 49 (rowV [(a0, b0), (a1, b1), (a2, b2), (a3, b3), (a4, b4), (a5, b5), (a6, b6), (a7, b7), (a8, b8)]) (.int .i64 1)).run Tryd.prog w = .ok (.agg #[.int .i32 a1, .int .i32 b1]) w := by kernel_rfl
theorem idx2 (a0 b0 a1 b1 a2 b2 a3 b3 a4 b4 a5 b5 a6 b6 a7 b7 a8 b8 : Int) (w : World) : (Instr.index 49 (rowV [(a0, b0), (a1, b1), (a2, b2), (a3, b3), (a4, b4), (a5, b5), (a6, b6), (a7, b7), (a8, b8)]) (.int .i64 2)).run Tryd.prog w = .ok (.agg #[.int .i32 a2, .int .i32 b2]) w := by kernel_rfl
theorem idx3 (a0 b0 a1 b1 a2 b2 a3 b3 a4 b4 a5 b5 a6 b6 a7 b7 a8 b8 : Int) (w : World) : (Instr.index 49 (rowV [(a0, b0), (a1, b1), (a2, b2), (a3, b3), (a4, b4), (a5, b5), (a6, b6), (a7, b7), (a8, b8)]) (.int .i64 3)).run Tryd.prog w = .ok (.agg #[.int .i32 a3, .int .i32 b3]) w := by kernel_rfl
theorem idx4 (a0 b0 a1 b1 a2 b2 a3 b3 a4 b4 a5 b5 a6 b6 a7 b7 a8 b8 : Int) (w : World) : (Instr.index 49 (rowV [(a0, b0), (a1, b1), (a2, b2), (a3, b3), (a4, b4), (a5, b5), (a6, b6), (a7, b7), (a8, b8)]) (.int .i64 4)).run Tryd.prog w = .ok (.agg #[.int .i32 a4, .int .i32 b4]) w := by kernel_rfl
theorem idx5 (a0 b0 a1 b1 a2 b2 a3 b3 a4 b4 a5 b5 a6 b6 a7 b7 a8 b8 : Int) (w : World) : (Instr.index 49 (rowV [(a0, b0), (a1, b1), (a2, b2), (a3, b3), (a4, b4), (a5, b5), (a6, b6), (a7, b7), (a8, b8)]) (.int .i64 5)).run Tryd.prog w = .ok (.agg #[.int .i32 a5, .int .i32 b5]) w := by kernel_rfl
theorem idx6 (a0 b0 a1 b1 a2 b2 a3 b3 a4 b4 a5 b5 a6 b6 a7 b7 a8 b8 : Int) (w : World) : (Instr.index 49 (rowV [(a0, b0), (a1, b1), (a2, b2), (a3, b3), (a4, b4), (a5, b5), (a6, b6), (a7, b7), (a8, b8)]) (.int .i64 6)).run Tryd.prog w = .ok (.agg #[.int .i32 a6, .int .i32 b6]) w := by kernel_rfl
theorem idx7 (a0 b0 a1 b1 a2 b2 a3 b3 a4 b4 a5 b5 a6 b6 a7 b7 a8 b8 : Int) (w : World) : (Instr.index 49 (rowV [(a0, b0), (a1, b1), (a2, b2), (a3, b3), (a4, b4), (a5, b5), (a6, b6), (a7, b7), (a8, b8)]) (.int .i64 7)).run Tryd.prog w = .ok (.agg #[.int .i32 a7, .int .i32 b7]) w := by kernel_rfl
theorem idx8 (a0 b0 a1 b1 a2 b2 a3 b3 a4 b4 a5 b5 a6 b6 a7 b7 a8 b8 : Int) (w : World) : (Instr.index 49 (rowV [(a0, b0), (a1, b1), (a2, b2), (a3, b3), (a4, b4), (a5, b5), (a6, b6), (a7, b7), (a8, b8)]) (.int .i64 8)).run Tryd.prog w = .ok (.agg #[.int .i32 a8, .int .i32 b8]) w := by kernel_rfl
theorem index_row {l : List (Int × Int)} (hl : l.length = 9) (k : Nat) (hk : k < l.length) (w : World) : (Instr.index 49 (rowV l) (.int .i64 (k : Int))).run Tryd.prog w = .ok (.agg #[.int .i32 l[k].1, .int .i32 l[k].2]) w := by
  match l, hl with
  | [(a0, b0), (a1, b1), (a2, b2), (a3, b3), (a4, b4), (a5, b5), (a6, b6), (a7, b7), (a8, b8)], _ =>
    match k, hk with
    | 0, _ => exact idx0 _ _ _ _ _ _ _ _ _ _ _ _ _ _ _ _ _ _ w
    | 1, _ => exact idx1 _ _ _ _ _ _ _ _ _ _ _ _ _ _ _ _ _ _ w
    | 2, _ => exact idx2 _ _ _ _ _ _ _ _ _ _ _ _ _ _ _ _ _ _ w
    | 3, _ => exact idx3 _ _ _ _ _ _ _ _ _ _ _ _ _ _ _ _ _ _ w
    | 4, _ => exact idx4 _ _ _ _ _ _ _ _ _ _ _ _ _ _ _ _ _ _ w
    | 5, _ => exact idx5 _ _ _ _ _ _ _ _ _ _ _ _ _ _ _ _ _ _ w
    | 6, _ => exact idx6 _ _ _ _ _ _ _ _ _ _ _ _ _ _ _ _ _ _ w
    | 7, _ => exact idx7 _ _ _ _ _ _ _ _ _ _ _ _ _ _ _ _ _ _ w
    | 8, _ => exact idx8 _ _ _ _ _ _ _ _ _ _ _ _ _ _ _ _ _ _ w
    | n + 9, h => exact absurd h (by simp)
theorem row_shape {l : List (Int × Int)} (hl : l.length = 9) : ∃ a0 b0 a1 b1 a2 b2 a3 b3 a4 b4 a5 b5 a6 b6 a7 b7 a8 b8 : Int, rowV l = .agg #[.int .i32 a0, .int .i32 b0, .int .i32 a1, .int .i32 b1, .int .i32 a2, .int .i32 b2, .int .i32 a3, .int .i32 b3, .int .i32 a4, .int .i32 b4, .int .i32 a5, .int .i32 b5, .int .i32 a6, .int .i32 b6, .int .i32 a7, .int .i32 b7, .int .i32 a8, .int .i32 b8] := by
  match l, hl with
  | [(a0, b0), (a1, b1), (a2, b2), (a3, b3), (a4, b4), (a5, b5), (a6, b6), (a7, b7), (a8, b8)], _ => exact ⟨_, _, _, _, _, _, _, _, _, _, _, _, _, _, _, _, _, _, rfl⟩
theorem hasB_step {l : List (Int × Int)} {n : Nat} (h : n < l.length) (c : Int) : hasB (l.drop n) c = (inP c l[n] || hasB (l.drop (n + 1)) c) := by
  unfold hasB; rw [List.drop_eq_getElem_cons h, List.any_cons]
theorem nzL_step {l : List (Int × Int)} {n : Nat} (h : n < l.length) : nzL (l.drop n) = (if zeroP l[n] = true then [] else [l[n]]) ++ nzL (l.drop (n + 1)) := by
  rw [List.drop_eq_getElem_cons h]
  unfold nzL
  rw [List.filter_cons]
  cases zeroP l[n] <;> simp
theorem underRow : Tryd.prog.underlying 49 = some (.array 9 47) := by kernel_rfl
theorem infoRow : (Tryd.prog.info? 49).map (·.size) = some 18 := by kernel_rfl
/-- the load of a whole row of spans -/
theorem wpList_load_row {w : World} {ops : Array Oper} {rest : List Oper} {o : Oper} {a : Act} {Q : Exit → Act → World → Prop}
    (hg : o.guard = none) (x : Operand) (hop : o.op = Op.load 49 x) {b off : Nat} {A : Array Value} (hx : a.eval x = .pointer (some ⟨b, off, none⟩))
    (hrun : (Instr.loadAt 49 (.pointer (some ⟨b, off, none⟩))).run Tryd.prog w = .ok (.agg A) w)
    (hK : wpList Tryd.prog ops Q rest (a.put o.dst (.agg A)) w) : wpList Tryd.prog ops Q (o :: rest) a w := by
  refine wpList_plain hg fun K' hK' => ?_
  unfold Oper.wp
  simp [execOp, hop, hx, hrun, Result.andThen]
  exact hK' _ _ hK
theorem run_load_row (w : World) {A : Array Value} (h : A.size = 18) : (Instr.loadAt 49 (.pointer (some ⟨w.heap.size, 0, none⟩))).run Tryd.prog (w.alloc (.cells A 49)) = .ok (.agg A) (w.alloc (.cells A 49)) :=
  run_loadAt_new w _ A 9 47 underRow (by rw [infoRow, h])
theorem row_size {l : List (Int × Int)} (hl : l.length = 9) : ∃ A : Array Value, rowV l = .agg A ∧ A.size = 18 := by
  refine ⟨_, rfl, ?_⟩
  match l, hl with
  | [(a0, b0), (a1, b1), (a2, b2), (a3, b3), (a4, b4), (a5, b5), (a6, b6), (a7, b7), (a8, b8)], _ => rfl
set_option maxRecDepth 100000 in
set_option maxHeartbeats 1000000 in
theorem has_p {l : List (Int × Int)} (hl : l.length = 9) (c : Int) (w : World) : Calls Tryd.prog 28 #[rowV l, .int .i32 c] w fun e w' => e = .returned (.bool (hasB l c)) ∧ Gr w w' := by
  have HX := Lib.hid (fun k h w => index_row hl k h w)
  have HR : Hid (hasB l c = hasB (l.drop 0) c) := Lib.hid rfl
  have HL := Lib.hid hl
  generalize hasB l c = R at *
  obtain ⟨A, hA, hA2⟩ := row_size hl
  rw [hA] at HX ⊢
  have hld := Lib.hid (fun W : World => run_load_row W hA2)
  clear hA hl hA2
  go_enter Tryd.func28, Tryd.ntmps28
  go_wp2_with (refine wpList_load_row rfl (.tmp 2) rfl rfl (hld.out _) ?_)
  go_loopw [6, 8] (fun _ sc wr => ∃ n : Nat, sc = .int .i64 (n : Int) ∧ n ≤ 9 ∧ Gr w wr ∧ Hid (R = hasB (l.drop n) c)) (fun _ sc _ => left9 sc)
  case atStart => exact ⟨0, rfl, by decide, (Gr.refl w).alloc _, HR⟩
  case round =>
    obtain ⟨n, rfl, hn, hg, hR⟩ := hrel
    clear HR
    have Hg := Lib.hid hg
    clear hg
    by_cases hc : n < 9
    · have hnl : n < l.length := by rw [HL.out]; exact hc
      have hx : ∀ W : World, (Instr.index 49 (.agg A) (.int .i64 (n : Int))).run Tryd.prog W = .ok (.agg #[.int .i32 l[n].1, .int .i32 l[n].2]) W := fun W => HX.out n hnl W
      have hR2 : Hid (R = (inP c l[n] || hasB (l.drop (n + 1)) c)) := Lib.hid (by rw [hR.out, hasB_step hnl])
      generalize l[n] = p at *
      obtain ⟨a, b⟩ := p
      have hc' : (n : Int) < 9 := by omega
      clear hR HX HL hnl
      by_cases hz : a = 0 ∧ b = 0
      · obtain ⟨rfl, rfl⟩ := hz
        have E : Hid (R = hasB (l.drop (n + 1)) c) := Lib.hid (by rw [hR2.out]; simp [inP, zeroP])
        clear hR2
        go_wp2_with fail
        go_roundw
        case rel => exact ⟨n + 1, rfl, by omega, (Hg.out).alloc _, E⟩
        case measure => simp only [left9]; omega
      · have hp : (a == 0) = false ∨ ((a == 0) = true ∧ (b == 0) = false) := by
          by_cases h0 : a = 0
          · exact .inr ⟨by simpa using h0, by simpa using fun h => hz ⟨h0, h⟩⟩
          · exact .inl (by simpa using h0)
        clear hz
        rcases hp with h0 | ⟨h0, h1⟩
        · by_cases h2 : a ≤ c
          · by_cases h3 : c ≤ b
            · have E : Hid (R = true) := Lib.hid (by rw [hR2.out]; simp [inP, zeroP, h0, h2, h3])
              clear hR2
              go_wp2_with fail
              go_ret
              exact ⟨by rw [E.out]; rfl, (Hg.out).alloc _⟩
            · have E : Hid (R = hasB (l.drop (n + 1)) c) := Lib.hid (by rw [hR2.out]; simp [inP, zeroP, h0, h3])
              clear hR2
              go_wp2_with fail
              go_roundw
              case rel => exact ⟨n + 1, rfl, by omega, (Hg.out).alloc _, E⟩
              case measure => simp only [left9]; omega
          · have E : Hid (R = hasB (l.drop (n + 1)) c) := Lib.hid (by rw [hR2.out]; simp [inP, zeroP, h0, h2])
            clear hR2
            go_wp2_with fail
            go_roundw
            case rel => exact ⟨n + 1, rfl, by omega, (Hg.out).alloc _, E⟩
            case measure => simp only [left9]; omega
        · by_cases h2 : a ≤ c
          · by_cases h3 : c ≤ b
            · have E : Hid (R = true) := Lib.hid (by rw [hR2.out]; simp [inP, zeroP, h0, h1, h2, h3])
              clear hR2
              go_wp2_with fail
              go_ret
              exact ⟨by rw [E.out]; rfl, (Hg.out).alloc _⟩
            · have E : Hid (R = hasB (l.drop (n + 1)) c) := Lib.hid (by rw [hR2.out]; simp [inP, zeroP, h0, h1, h3])
              clear hR2
              go_wp2_with fail
              go_roundw
              case rel => exact ⟨n + 1, rfl, by omega, (Hg.out).alloc _, E⟩
              case measure => simp only [left9]; omega
          · have E : Hid (R = hasB (l.drop (n + 1)) c) := Lib.hid (by rw [hR2.out]; simp [inP, zeroP, h0, h1, h2])
            clear hR2
            go_wp2_with fail
            go_roundw
            case rel => exact ⟨n + 1, rfl, by omega, (Hg.out).alloc _, E⟩
            case measure => simp only [left9]; omega
    · have hc' : ¬ (n : Int) < 9 := by omega
      have E : Hid (R = false) := Lib.hid (by rw [hR.out, List.drop_eq_nil_of_le (by rw [HL.out]; omega)]; rfl)
      clear hR HX HL
      go_wp2
      go_ret
      exact ⟨by rw [E.out]; rfl, Hg.out⟩
end Go.Proofs.YtiohoiebnpdkbaaDoor
