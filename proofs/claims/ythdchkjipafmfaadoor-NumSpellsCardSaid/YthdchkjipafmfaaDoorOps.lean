/- The map of operations of package num: what it holds. -/
import Derived.Test.YthdchkjipafmfaaDoorBase
import Derived.Test.YthdchkjipafmfaaDoorPlain
import Derived.Outline
import Derived.Deep.DeepFit
import Derived.Maps.Own
import Derived.Maps.OwnOps
namespace Go.Proofs.YthdchkjipafmfaaDoor
open Go.RowKit
open Go.ChangeMaps (setBlock setBlock heap_setBlock_same heap_setBlock_other)

theorem refuse_any (why : Int) (F : Fn) (A C : Array Value) (w : World) : Calls Tryd.prog 87 #[.int .i64 why, .func F A C] w fun e w' =>
    e = .returned (.func (.func 120) #[] #[.pointer (some ⟨w.heap.size + 1, 0, none⟩), .pointer (some ⟨w.heap.size, 0, none⟩)]) ∧ (w.alloc (.cells #[.int .i64 why] 3)).alloc (.cells #[.func F A C] 41) = w' := by
  go_enter Tryd.func87, Tryd.ntmps87
  go_wp2
  go_ret
  exact ⟨rfl, rfl⟩
theorem checked_any (F : Fn) (A C : Array Value) (p : Option Addr) (n c : Nat) (w : World) : Calls Tryd.prog 91 #[.func F A C, .slice p n c] w fun e w' =>
    e = .returned (.func (.func 121) #[] #[.pointer (some ⟨w.heap.size + 1, 0, none⟩), .pointer (some ⟨w.heap.size, 0, none⟩)]) ∧ (w.alloc (.cells #[.func F A C] 42)).alloc (.cells #[.slice p n c] 110) = w' := by
  go_enter Tryd.func91, Tryd.ntmps91
  go_wp2
  go_ret
  exact ⟨rfl, rfl⟩

/-- v is a check that gives why where function f says so -/
def IsChk (W : World) (b : Nat) (f : Nat) (why : Int) (v : Value) : Prop :=
  ∃ x y : Nat, x ≠ b ∧ y ≠ b ∧ v = .func (.func 120) #[] #[.pointer (some ⟨x, 0, none⟩), .pointer (some ⟨y, 0, none⟩)] ∧ W.cell? ⟨x, 0, none⟩ = some (.func (.func f) #[] #[]) ∧ W.cell? ⟨y, 0, none⟩ = some (.int .i64 why)
/-- v is an operation that computes by c, behind the check (f, why) if there is one -/
def IsOp (W : World) (b : Nat) (c : Nat) (chk : Option (Nat × Int)) (v : Value) : Prop :=
  ∃ p q : Nat, p ≠ b ∧ q ≠ b ∧ v = .func (.func 121) #[] #[.pointer (some ⟨q, 0, none⟩), .pointer (some ⟨p, 0, none⟩)] ∧ W.cell? ⟨p, 0, none⟩ = some (.func (.func c) #[] #[]) ∧
    ((chk = none ∧ W.cell? ⟨q, 0, none⟩ = some (.slice none 0 0)) ∨
     ∃ f why r u, chk = some (f, why) ∧ r ≠ b ∧ W.cell? ⟨q, 0, none⟩ = some (.slice (some ⟨r, 0, none⟩) 1 1) ∧ W.cell? ⟨r, 0, none⟩ = some u ∧ IsChk W b f why u)

theorem cell_kept {W W' : World} {b : Nat} (hg : W.grownBy W' (some b)) {k : Nat} (hk : k ≠ b) {i : Nat} {v : Value} (h : W.cell? ⟨k, i, none⟩ = some v) : W'.cell? ⟨k, i, none⟩ = some v := by
  have hlt : k < W.heap.size := by
    cases hh : W.heap[k]? with
    | none => simp [World.cell?, hh] at h
    | some o => exact (Array.getElem?_eq_some_iff.1 hh).1
  rw [← h]
  exact World.cell?_of_block (w := W) (a := ⟨k, i, none⟩) (hg.block k hlt (fun e => hk (by injection e)))
theorem IsChk.kept {W W' : World} {b f : Nat} {why : Int} {v : Value} (h : IsChk W b f why v) (hg : W.grownBy W' (some b)) : IsChk W' b f why v := by
  obtain ⟨x, y, hx, hy, e, h1, h2⟩ := h
  exact ⟨x, y, hx, hy, e, cell_kept hg hx h1, cell_kept hg hy h2⟩
theorem IsOp.kept {W W' : World} {b c : Nat} {chk : Option (Nat × Int)} {v : Value} (h : IsOp W b c chk v) (hg : W.grownBy W' (some b)) : IsOp W' b c chk v := by
  obtain ⟨p, q, hp, hq, e, h1, h2⟩ := h
  refine ⟨p, q, hp, hq, e, cell_kept hg hp h1, ?_⟩
  rcases h2 with ⟨h2, h3⟩ | ⟨f, why, r, u, h2, h3, h4, h5, h6⟩
  · exact .inl ⟨h2, cell_kept hg hq h3⟩
  · exact .inr ⟨f, why, r, u, h2, h3, cell_kept hg hq h4, cell_kept hg h3 h5, h6.kept hg⟩

def codeOf : Nat → Nat
  | 0 => 92 | 1 => 93 | 2 => 94 | 3 => 95 | 4 => 96 | 5 => 97 | 6 => 98 | 7 => 99 | _ => 100
def chkOf : Nat → Option (Nat × Int)
  | 0 => none | 1 => none | 2 => none | 3 => some (88, 2) | 4 => some (88, 2) | 5 => some (89, 1) | _ => some (90, 1)

/-- n operations lie in the map's block b -/
structure Stg (w0 W : World) (b n : Nat) (d1 d2 d3 : Value) : Prop where
  lo : w0.heap.size ≤ b
  hi : b < W.heap.size
  below : Below w0.heap.size w0 W
  c1 : IsChk W b 88 2 d1
  c2 : IsChk W b 89 1 d2
  c3 : IsChk W b 90 1 d3
  map : ∃ es : Array MapEntry, es.size = n ∧ W.heap[b]? = some (.map es n) ∧ ∀ (j : Nat) (e : MapEntry), es[j]? = some e → e.key = .int .i64 (j : Int) ∧ IsOp W b (codeOf j) (chkOf j) e.val

theorem Stg.alloc {w0 W : World} {b n : Nat} {d1 d2 d3 : Value} (h : Stg w0 W b n d1 d2 d3) (o : Obj) : Stg w0 (W.alloc o) b n d1 d2 d3 := by
  have hg : W.grownBy (W.alloc o) (some b) := World.grownBy_alloc W o (some b)
  obtain ⟨es, h1, h2, h3⟩ := h.map
  exact ⟨h.lo, by have := h.hi; simp; omega, h.below.alloc (Nat.le_trans h.lo (Nat.le_of_lt h.hi)) o, h.c1.kept hg, h.c2.kept hg, h.c3.kept hg,
    es, h1, by rw [Below.heap_alloc _ _ _ h.hi]; exact h2, fun j e he => ⟨(h3 j e he).1, (h3 j e he).2.kept hg⟩⟩

/-- which entry a key finds -/
theorem findNow_at (k : Int) : ∀ (l : List MapEntry) (i : Nat), (∀ (j : Nat) (e : MapEntry), l[j]? = some e → e.key = .int .i64 ((i + j : Nat) : Int)) →
    Instr.findNow (.int .i64) (.int .i64 k) l i = some (if h : (i : Int) ≤ k ∧ k < i + l.length then some (k.toNat, (l[k.toNat - i]'(by omega)).val) else none)
  | [], i, _ => by simp [Instr.findNow]
  | e :: l, i, h => by
    have h0 := h 0 e rfl
    have ih := findNow_at k l (i + 1) (fun j x hx => by rw [h (j + 1) x hx]; congr 1; omega)
    unfold Instr.findNow
    rw [h0]
    simp only [Instr.sameNow, if_pos, Nat.add_zero]
    by_cases hk : k = i
    · subst hk; simp; omega
    · have : ((k == (i : Int)) = false) := by simpa using hk
      rw [this, ih]
      by_cases h1 : (i : Int) ≤ k ∧ k < i + (l.length + 1)
      · have h2 : ((i + 1 : Nat) : Int) ≤ k ∧ k < ((i + 1 : Nat) : Int) + l.length := by omega
        rw [dif_pos h2, dif_pos (by simpa using h1)]
        have : k.toNat - i = (k.toNat - (i + 1)) + 1 := by omega
        simp [this]
      · have h2 : ¬ (((i + 1 : Nat) : Int) ≤ k ∧ k < ((i + 1 : Nat) : Int) + l.length) := by omega
        rw [dif_neg h2, dif_neg (by simpa using h1)]

theorem Stg.start {w0 W : World} {d1 d2 d3 : Value} (hb : Below w0.heap.size w0 W) (c1 : IsChk W W.heap.size 88 2 d1) (c2 : IsChk W W.heap.size 89 1 d2) (c3 : IsChk W W.heap.size 90 1 d3) :
    Stg w0 (W.alloc (.map #[] 0)) W.heap.size 0 d1 d2 d3 := by
  have hg : W.grownBy (W.alloc (.map #[] 0)) (some W.heap.size) := World.grownBy_alloc W _ _
  exact ⟨hb.size, by simp, hb.alloc hb.size _, c1.kept hg, c2.kept hg, c3.kept hg, #[], rfl, (MapKept.heap_alloc W _).1, fun j e he => by simp at he⟩

theorem run_checkKey (m : Bool) (k : Int) (w : World) : (Instr.checkKey m 10000 3 (.int .i64 k)).run Tryd.prog w = .ok () w := by
  exact MapKept.run_checkKey Tryd.underlying3 (by simp [MapKept.IsKey]) m 9999
theorem run_insert {w : World} {b : Nat} {es : Array MapEntry} {c : Nat} (hb : w.heap[b]? = some (.map es c)) (k : Int) (v : Value) (hf : Instr.findNow (.int .i64) (.int .i64 k) es.toList 0 = some none) :
    (Instr.mapUpdate 69 (.map (some b)) (.int .i64 k) v).run Tryd.prog w = .ok () (setBlock w b (.map (es.push ⟨.int .i64 k, v, c⟩) (c + 1))) := by
  simp [Instr.mapUpdate, run_underlying Tryd.underlying69, run_checkKey, MapKept.run_getObj_map hb, MapKept.run_findKey Tryd.underlying3 hf, MapKept.run_setObj_map _ hb, Result.andThen, setBlock]
theorem Stg.find {w0 W : World} {b n : Nat} {d1 d2 d3 : Value} (h : Stg w0 W b n d1 d2 d3) : ∃ es : Array MapEntry, es.size = n ∧ W.heap[b]? = some (.map es n) ∧ (∀ (j : Nat) (e : MapEntry), es[j]? = some e → e.key = .int .i64 (j : Int) ∧ IsOp W b (codeOf j) (chkOf j) e.val) ∧
    ∀ k : Int, Instr.findNow (.int .i64) (.int .i64 k) es.toList 0 = some (if (0 : Int) ≤ k ∧ k < n then (es[k.toNat]?).map (fun e => (k.toNat, e.val)) else none) := by
  obtain ⟨es, h1, h2, h3⟩ := h.map
  refine ⟨es, h1, h2, h3, fun k => ?_⟩
  rw [findNow_at k es.toList 0 (fun j e he => by rw [(h3 j e (by simpa using he)).1]; simp)]
  by_cases hk : (0 : Int) ≤ k ∧ k < n
  · rw [if_pos hk, dif_pos (by simpa [h1] using hk)]
    have : k.toNat < es.size := by omega
    simp [this]
  · rw [if_neg hk, dif_neg (by simpa [h1] using hk)]
theorem wpList_insert_stg {w0 w : World} {ops : Array Oper} {rest : List Oper} {o : Oper} {a : Act} {Q : Exit → Act → World → Prop}
    (hg : o.guard = none) (m x v : Operand) (hop : o.op = Op.insert 69 m x v) {b n : Nat} {d1 d2 d3 : Value} (hS : Stg w0 w b n d1 d2 d3)
    (hm : a.eval m = .map (some b)) (hx : a.eval x = .int .i64 (n : Int)) (val : Value) (hv : a.eval v = val) (hval : IsOp w b (codeOf n) (chkOf n) val)
    (hK : ∀ w', Stg w0 w' b (n + 1) d1 d2 d3 → wpList Tryd.prog ops Q rest (a.put o.dst undef) w') :
    wpList Tryd.prog ops Q (o :: rest) a w := by
  obtain ⟨es, h1, h2, h3, h4⟩ := hS.find
  have hf := h4 n
  rw [if_neg (by omega)] at hf
  have hrun := run_insert h2 n val hf
  have hk : w.grownBy (setBlock w b (.map (es.push ⟨.int .i64 n, val, n⟩) (n + 1))) (some b) := ⟨rfl, rfl, rfl, by simp [setBlock], fun i _ hi => heap_setBlock_other h2 _ (fun e => hi (by rw [e]))⟩
  have hS' : Stg w0 (setBlock w b (.map (es.push ⟨.int .i64 n, val, n⟩) (n + 1))) b (n + 1) d1 d2 d3 :=
    ⟨hS.lo, by simpa [setBlock] using hS.hi, hS.below.grown hk (Nat.le_trans hS.lo (Nat.le_of_lt hS.hi)) (fun k hk => by cases hk; exact hS.lo), hS.c1.kept hk, hS.c2.kept hk, hS.c3.kept hk,
      es.push ⟨.int .i64 n, val, n⟩, by simp [h1], heap_setBlock_same h2 _, fun j e he => by
        rw [Array.getElem?_push] at he
        split at he
        · rename_i hj
          cases he
          rw [hj, h1]
          exact ⟨rfl, hval.kept hk⟩
        · exact ⟨(h3 j e he).1, (h3 j e he).2.kept hk⟩⟩
  refine wpList_plain hg fun K' hK' => ?_
  unfold Oper.wp
  simp [execOp, hop, hm, hx, hv, hrun, Result.andThen]
  exact hK' _ _ (hK _ hS')
end Go.Proofs.YthdchkjipafmfaaDoor
