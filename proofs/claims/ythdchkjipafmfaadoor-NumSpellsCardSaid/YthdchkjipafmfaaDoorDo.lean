/- Do of package num, operation by operation. -/
import Derived.Test.YthdchkjipafmfaaDoorOps2
import Derived.Test.YthdchkjipafmfaaDoorQuo
namespace Go.Proofs.YthdchkjipafmfaaDoor
open Go.RowKit

theorem bad1_any (a b : Int) (w : World) : Calls Tryd.prog 88 #[.int .i64 a, .int .i64 b] w fun e w' => e = .returned (.bool (b == 0)) ∧ w = w' := by
  go_enter Tryd.func88, Tryd.ntmps88
  go_wp2
  go_ret
  exact ⟨rfl, rfl⟩
theorem quotient_any (a b : Int) (w : World) (ha : -9007199254740992 ≤ a ∧ a ≤ 9007199254740992) (hb : ¬ b = 0) :
    Calls Tryd.prog 95 #[.int .i64 a, .int .i64 b] w fun e w' => e = .returned (.int .i64 (a.fdiv b)) ∧ w = w' := by
  obtain ⟨hd0, hd1⟩ := tdiv_bd (b := b) ha
  go_enter Tryd.func95, Tryd.ntmps95
  go_wp2
  · go_ret
    exact ⟨by rw [← quot1 ‹_›]; rfl, rfl⟩
  · go_ret
    exact ⟨by rw [← quot2 hb ‹_› (And.right ‹_›)]; rfl, rfl⟩
  · rename_i hn hs
    go_ret
    exact ⟨by rw [← quot3 hn (hs.resolve_left (by simpa using hn))]; rfl, rfl⟩
theorem refuse1_div (a b : Int) (x y : Nat) (why : Int) (t : Bool) (h : (b == 0) = t) (w : World) (hx : w.cell? ⟨x, 0, none⟩ = some (.func (.func 88) #[] #[])) (hy : w.cell? ⟨y, 0, none⟩ = some (.int .i64 why)) :
    Calls Tryd.prog 120 #[.int .i64 a, .int .i64 b, .pointer (some ⟨x, 0, none⟩), .pointer (some ⟨y, 0, none⟩)] w fun e w' => e = .returned (.int .i64 (bif t then why else 0)) ∧ w = w' := by
  cases t
  · go_enter Tryd.func120, Tryd.ntmps120
    go_wp2
    go_ret
    exact ⟨rfl, rfl⟩
  · go_enter Tryd.func120, Tryd.ntmps120
    go_wp2
    go_ret
    exact ⟨rfl, rfl⟩
theorem op_div (a b : Int) (q p r x y : Nat) (w : World) (hq : w.cell? ⟨q, 0, none⟩ = some (.slice (some ⟨r, 0, none⟩) 1 1)) (hp : w.cell? ⟨p, 0, none⟩ = some (.func (.func 95) #[] #[]))
    (hr : w.cell? ⟨r, 0, none⟩ = some (.func (.func 120) #[] #[.pointer (some ⟨x, 0, none⟩), .pointer (some ⟨y, 0, none⟩)])) (hx : w.cell? ⟨x, 0, none⟩ = some (.func (.func 88) #[] #[])) (hy : w.cell? ⟨y, 0, none⟩ = some (.int .i64 2))
    (ha : -9007199254740992 ≤ a ∧ a ≤ 9007199254740992) (hb : ¬ b = 0) (hn : isNumB (a.fdiv b) = true) :
    Calls Tryd.prog 121 #[.int .i64 a, .int .i64 b, .pointer (some ⟨q, 0, none⟩), .pointer (some ⟨p, 0, none⟩)] w fun e w' => e = .returned (.tuple #[.int .i64 (a.fdiv b), .int .i64 0]) ∧ w = w' := by
  have hc := refuse1_div a b x y 2 false (by simpa using hb) w hx hy
  rw [cond_false] at hc
  have Hc := Lib.hid hc
  clear hc hx hy
  have ha' := Lib.hid ha
  clear ha
  go_enter Tryd.func121, Tryd.ntmps121
  go_wp2_with fail
  refine wp_loop_rounds 2 ?_
  rw [rounds_succ]
  go_wp2_with (first | (go_at_call 120; refine Hc.out.mono ?_; rintro e w' ⟨rfl, rfl⟩))
  rw [rounds_succ]
  go_wp2_with (first | (go_at_call 95; refine (quotient_any a b _ ha'.out hb).mono ?_; rintro e w' ⟨rfl, rfl⟩) | (go_at_call 62; refine (isNumber_any _ _).mono ?_; rintro e w' ⟨rfl, rfl⟩))
  go_ret2
  exact ⟨rfl, rfl⟩

theorem run_lookup {w : World} {b : Nat} {es : Array MapEntry} {c : Nat} (hb : w.heap[b]? = some (.map es c)) (k : Int) {i : Nat} {v : Value} (hf : Instr.findNow (.int .i64) (.int .i64 k) es.toList 0 = some (some (i, v))) :
    (Instr.lookup 69 (.map (some b)) (.int .i64 k) true).run Tryd.prog w = .ok (.tuple #[v, .bool true]) w := by
  simp [Instr.lookup, run_underlying Tryd.underlying69, run_checkKey, MapKept.run_getObj_map hb, MapKept.run_findKey Tryd.underlying3 hf, Result.andThen]
theorem run_lookup_none {w : World} {b : Nat} {es : Array MapEntry} {c : Nat} (hb : w.heap[b]? = some (.map es c)) (k : Int) (hf : Instr.findNow (.int .i64) (.int .i64 k) es.toList 0 = some none) :
    (Instr.lookup 69 (.map (some b)) (.int .i64 k) true).run Tryd.prog w = .ok (.tuple #[.nilFunc, .bool false]) w := by
  have hz : (zeroValue 67).run Tryd.prog w = .ok .nilFunc w := by kernel_rfl
  simp [Instr.lookup, run_underlying Tryd.underlying69, run_checkKey, MapKept.run_getObj_map hb, MapKept.run_findKey Tryd.underlying3 hf, Result.andThen, hz]
/-- what the look-up of an operation gives -/
theorem Stg.get {w0 W : World} {b : Nat} {d1 d2 d3 : Value} (h : Stg w0 W b 9 d1 d2 d3) (j : Nat) (hj : j < 9) (k : Int) (hk : k = j) :
    ∃ v, (Instr.lookup 69 (.map (some b)) (.int .i64 k) true).run Tryd.prog W = .ok (.tuple #[v, .bool true]) W ∧ IsOp W b (codeOf j) (chkOf j) v := by
  subst hk
  obtain ⟨es, h1, h2, h3, h4⟩ := h.find
  have hf := h4 j
  have hlt : j < es.size := by omega
  rw [if_pos (by omega)] at hf
  simp [hlt] at hf
  exact ⟨_, run_lookup h2 j hf, (h3 j es[j] (by simp [hlt])).2⟩
theorem Stg.none {w0 W : World} {b : Nat} {d1 d2 d3 : Value} (h : Stg w0 W b 9 d1 d2 d3) (k : Int) (hk : k < 0 ∨ 8 < k) :
    (Instr.lookup 69 (.map (some b)) (.int .i64 k) true).run Tryd.prog W = .ok (.tuple #[.nilFunc, .bool false]) W := by
  obtain ⟨es, h1, h2, h3, h4⟩ := h.find
  have hf := h4 k
  rw [if_neg (by omega)] at hf
  exact run_lookup_none h2 k hf

theorem do_div (a b : Int) (w : World) (ha : isNumB a = true) (hb : isNumB b = true) (h0 : ¬ b = 0) (hn : isNumB (a.fdiv b) = true) :
    Calls Tryd.prog 28 #[.int .i64 3, .int .i64 a, .int .i64 b] w fun e w' => e = .returned (.tuple #[.int .i64 (a.fdiv b), .int .i64 0, .int .i64 0]) ∧ Gr w w' := by
  have Ha := Lib.hid (isNumB_true.1 ha)
  go_enter Tryd.func28, Tryd.ntmps28
  go_wp2_with fail
  refine (operations_any w).mono ?_
  rintro e w1 ⟨b0, d1, d2, d3, rfl, hS⟩
  obtain ⟨v, hl, hop⟩ := hS.get 3 (by omega) 3 rfl
  obtain ⟨p, q, hp, hq, rfl, h1, h2⟩ := hop
  rcases h2 with ⟨h2, _⟩ | ⟨f, why, r, u, h2, h3, h4, h5, x, y, h6, h7, rfl, h8, h9⟩
  · cases h2
  cases h2
  have Hc := Lib.hid (op_div a b q p r x y w1 h4 h1 h5 h8 h9 Ha.out h0 hn)
  clear h1 h4 h5 h8 h9 hq hp h3 h6 h7
  have hg : Gr w w1 := hS.below
  clear hS
  go_wp2_with (first | (go_at_call 62; refine (isNumber_any _ _).mono ?_; rintro e w' ⟨rfl, rfl⟩) | (go_at_call 121; refine Hc.out.mono ?_; rintro e w' ⟨rfl, rfl⟩))
  go_ret3
  exact ⟨rfl, hg⟩
end Go.Proofs.YthdchkjipafmfaaDoor
