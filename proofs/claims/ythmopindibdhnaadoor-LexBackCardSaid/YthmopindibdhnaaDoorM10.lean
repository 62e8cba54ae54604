/- LRead LSkip LRun LForg -/
import Derived.Test.YthmopindibdhnaaDoorM05
import Derived.Deep.RegionLaw
import Derived.Deep.Cut
import Derived.Defers
import Derived.Recover
namespace Go.Proofs.YthmopindibdhnaaDoor
open Go.RowKit Go.Shelf
theorem step_of {P : Program} {o : Oper} {ops : Array Oper} {a : Act} {w : World} {K : Act → World → Prop} {Q : Exit → Act → World → Prop} {E : Prop} (hg : o.guard = none) (h : Oper.wp P o a w K Q) :
    if Region.wanted o (yielded ops a.tmps) = true then Oper.wp P o a w K Q else E := by
  rw [if_pos (by simp [Region.wanted, hg])]; exact h
theorem newCellsAt {X : World} {g : Nat} (hg : X.heap.size = g) {l : List Value} {t : TypeId} {j : Nat} {u : Value} (h : l[j]? = some u) : (X.alloc (.cells l.toArray t)).cell? ((⟨g, 0, none⟩ : Addr).add j) = some u := by
  subst hg
  rw [Addr.add_lit, cell_of_row _ _ _ l.toArray t (0, 0) (heap_alloc_new X _), Nat.zero_add]
  simpa using h
theorem infoTok : (Tryd.prog.info? 32).map (fun i => (i.zero, i.size, i.bytes)) = some (some (.agg #[.int .i64 0, .int .i64 0, .string ⟨#[]⟩, .string ⟨#[]⟩, .string ⟨#[]⟩, .int .i64 0]), 6, 72) := by kernel_rfl
theorem infoBool : (Tryd.prog.info? 4).map (fun i => (i.zero, i.size, i.bytes)) = some (some (.bool false), 1, 1) := by kernel_rfl
def cellsT (l : List Tok) : List Value := l.flatMap Tok.cells
theorem cellsT_app (l m : List Tok) : cellsT (l ++ m) = cellsT l ++ cellsT m := by simp [cellsT]
abbrev OwnT (w : World) (base : Nat) (v : Value) (l : List Tok) : Prop := w.ownsRow base 32 6 v l.length (cellsT l)
abbrev OwnB (w : World) (base : Nat) (v : Value) (l : List Bool) : Prop := w.ownsRow base 4 1 v l.length (l.map Value.bool)
/-- a row stands beside another one that has grown -/
theorem own_beside {w w' : World} {base b2 : Nat} {e e2 : TypeId} {size s2 : Nat} {v v2 : Value} {n n2 : Nat} {xs x2 : List Value} (h : w.ownsRow base e size v n xs) (h2 : w.ownsRow b2 e2 s2 v2 n2 x2) (hne : e ≠ e2) (k : w.grownBy w' v2.ownBlock) : w'.ownsRow base e size v n xs := by
  obtain ⟨a1, a2⟩ := h
  refine ⟨a1, ?_⟩
  rcases a2 with a2 | ⟨g, cap, cur, e1, e3, e4, e5⟩
  · exact .inl a2
  · refine .inr ⟨g, cap, cur, e1, e3, ?_, e5⟩
    rw [k.block _ (Array.getElem?_eq_some_iff.1 e4).1 ?_]; exact e4
    intro he
    rcases h2.2 with ⟨rfl, _⟩ | ⟨g2, cap2, cur2, rfl, _, f4, _⟩
    · cases he
    · simp [Value.ownBlock] at he
      subst he
      rw [e4] at f4; injection f4 with f4; injection f4 with _ f5 _; exact hne f5
theorem own_set {w : World} {base : Nat} {e : TypeId} {size : Nat} {v : Value} {n : Nat} {xs : List Value} (h : w.ownsRow base e size v n xs) {g : Nat} (hg : some g ≠ v.ownBlock) (j : Nat) (u : Value) : (w.setCell ⟨g, j, none⟩ u).ownsRow base e size v n xs := by
  obtain ⟨a1, a2⟩ := h
  refine ⟨a1, ?_⟩
  rcases a2 with a2 | ⟨b, cap, cur, rfl, e3, e4, e5⟩
  · exact .inl a2
  · refine .inr ⟨b, cap, cur, rfl, e3, ?_, e5⟩
    have : g ≠ b := fun e => hg (by rw [e]; rfl)
    simp [World.setCell, Array.getElem?_modify, this, e4]
theorem own_but {w w' : World} {P base : Nat} {e : TypeId} {size : Nat} {v : Value} {n : Nat} {xs : List Value} (h : w.ownsRow base e size v n xs) (k : But P w w') (hP : P < base) : w'.ownsRow base e size v n xs := by
  obtain ⟨a1, a2⟩ := h
  refine ⟨a1, ?_⟩
  rcases a2 with a2 | ⟨g, cap, cur, e1, e3, e4, e5⟩
  · exact .inl a2
  · refine .inr ⟨g, cap, cur, e1, e3, ?_, e5⟩
    rw [k.block _ (Array.getElem?_eq_some_iff.1 e4).1 (fun e => by injection e with e; omega)]; exact e4
theorem own_ge {w : World} {base : Nat} {e : TypeId} {size : Nat} {v : Value} {n : Nat} {xs : List Value} (h : w.ownsRow base e size v n xs) {i : Nat} (hi : v.ownBlock = some i) : base ≤ i ∧ i < w.heap.size ∧ ∃ cur, w.heap[i]? = some (.cells cur e (0, 0)) := by
  rcases h.2 with ⟨rfl, _⟩ | ⟨g, cap, cur, rfl, e3, e4, _⟩
  · cases hi
  · simp [Value.ownBlock] at hi
    subst hi
    exact ⟨e3, (Array.getElem?_eq_some_iff.1 e4).1, cur, e4⟩
theorem Sc.grown {w w' : World} {P M : Nat} {s : ByteArray} {at_ en : Nat} {tm : Bool} {tv bv ov : Value} {r : Option Nat} (h : Sc w P M s at_ en tm tv bv ov) (k : w.grownBy w' r) (h1 : r ≠ some P) (h2 : r ≠ some M) : Sc w' P M s at_ en tm tv bv ov :=
  ⟨by rw [k.block _ h.lt.1 (fun e => h1 e.symm)]; exact h.blk, by rw [k.block _ h.lt.2 (fun e => h2 e.symm)]; exact h.mp, h.ne⟩
variable {w : World} {P M : Nat} {s : ByteArray} {at_ en b : Nat} {tm : Bool} {tv bv ov : Value}
/-- what the scanner has read -/
structure Got (w : World) (base : Nat) (tv bv : Value) (toks : List Tok) (terms : List Bool) : Prop where
  tokR : OwnT w base tv toks
  termR : OwnB w base bv terms
/-- the blocks below base stand but P -/
structure Fr (P base : Nat) (w w' : World) : Prop where
  os : w'.os = w.os
  tape : w'.tape = w.tape
  output : w'.output = w.output
  size : w.heap.size ≤ w'.heap.size
  block : ∀ k, k < base → k ≠ P → w'.heap[k]? = w.heap[k]?
theorem Fr.refl (P base : Nat) (w : World) : Fr P base w w := ⟨rfl, rfl, rfl, Nat.le_refl _, fun _ _ _ => rfl⟩
theorem Fr.but {base : Nat} {a w w' : World} (h : Fr P base a w) (k : But P w w') (hb : base ≤ w.heap.size) : Fr P base a w' :=
  ⟨k.os.trans h.os, k.tape.trans h.tape, k.output.trans h.output, Nat.le_trans h.size k.size, fun i h1 h2 => (k.block i (by omega) (fun e => h2 (by injection e))).trans (h.block i h1 h2)⟩
theorem Fr.grow {base : Nat} {a w w' : World} {r : Option Nat} (h : Fr P base a w) (k : w.grownBy w' r) (hb : base ≤ w.heap.size) (hr : ∀ i, r = some i → base ≤ i) : Fr P base a w' :=
  ⟨k.os.trans h.os, k.tape.trans h.tape, k.output.trans h.output, Nat.le_trans h.size k.size, fun i h1 h2 => (k.block i (by omega) (fun e => by have h3 := hr i e.symm; omega)).trans (h.block i h1 h2)⟩
theorem own_apart {w : World} {base : Nat} {e : TypeId} {size : Nat} {v : Value} {n : Nat} {xs : List Value} (h : w.ownsRow base e size v n xs) {i : Nat} (hi : i < base ∨ w.heap.size ≤ i) : v.ownBlock ≠ some i := fun e => by
  have := own_ge h e; omega
/-- the tokens' row has grown, and the scanner has it -/
theorem read5 {w X w' : World} {P M g base : Nat} {s : ByteArray} {a en : Nat} {tm : Bool} {tv bv ov v' : Value} {n n2 : Nat} {xs ys zs : List Value} {o : Obj} {gc : Array Value} (SX : Sc X P M s a en tm tv bv ov) (hPb : P < base) (hMb : M < base) (hbw : base ≤ w.heap.size) (BX : But P w X)
    (ow : w.ownsRow base 32 6 tv n xs) (OB : w.ownsRow base 4 1 bv n2 ys) (hg : w.heap.size ≤ g) (K : X.heap[g]? = some (.cells gc 32 (0, 0)))
    (h1 : w'.ownsRow base 32 6 v' (n + 1) zs) (h2 : (X.drew.alloc o).grownBy w' tv.ownBlock) :
    Sc (w'.setCell ⟨P, 4, none⟩ v') P M s a en tm v' bv ov ∧ (w'.setCell ⟨P, 4, none⟩ v').ownsRow base 32 6 v' (n + 1) zs ∧ (w'.setCell ⟨P, 4, none⟩ v').ownsRow base 4 1 bv n2 ys ∧ (w'.setCell ⟨P, 4, none⟩ v').heap[g]? = some (.cells gc 32 (0, 0)) ∧ Fr P base w (w'.setCell ⟨P, 4, none⟩ v') ∧ g < (w'.setCell ⟨P, 4, none⟩ v').heap.size := by
  have GX : Gr X (X.drew.alloc o) := ((Gr.refl X).drew).alloc o
  have hP1 : tv.ownBlock ≠ some P := own_apart ow (.inl hPb)
  have hM1 : tv.ownBlock ≠ some M := own_apart ow (.inl hMb)
  have hP2 : some P ≠ v'.ownBlock := fun e => own_apart h1 (.inl hPb) e.symm
  have S1 := (SX.gr GX).grown h2 hP1 hM1
  have ob1 := own_beside (ownsRow_gr (own_but OB BX hPb) GX) (ownsRow_gr (own_but ow BX hPb) GX) (by decide) h2
  have ob2 : some P ≠ bv.ownBlock := fun e => own_apart OB (.inl hPb) e.symm
  have kg : w'.heap[g]? = some (.cells gc 32 (0, 0)) := by
    rw [h2.block _ (Nat.lt_of_lt_of_le (Array.getElem?_eq_some_iff.1 K).1 GX.size) (fun e => own_apart ow (.inr hg) e.symm), GX.block _ (Array.getElem?_eq_some_iff.1 K).1]; exact K
  have hgP : P ≠ g := by omega
  have fr := Fr.but (Fr.grow (Fr.but (Fr.but (Fr.refl P base w) BX hbw) (But.of_gr GX) (Nat.le_trans hbw BX.size)) h2 (Nat.le_trans hbw (Nat.le_trans BX.size GX.size)) (fun i e => (own_ge ow e).1)) (But.set (P := P) 4 v') (Nat.le_trans hbw (Nat.le_trans BX.size (Nat.le_trans GX.size h2.size)))
  exact ⟨S1.setTv v', own_set h1 hP2 4 v', own_set ob1 ob2 4 v', by simp [World.setCell, Array.getElem?_modify, hgP, kg], fr, by simpa [World.setCell] using (Array.getElem?_eq_some_iff.1 kg).1⟩
/-- the row of what was expected has grown, and the scanner has it -/
theorem read6 {w X w' : World} {P M g base : Nat} {s : ByteArray} {a en : Nat} {tm : Bool} {tv bv ov v' : Value} {n n2 : Nat} {xs ys zs : List Value} {o : Obj} {gc : Array Value} (SX : Sc X P M s a en tm tv bv ov) (hPb : P < base) (hMb : M < base) (hbw : base ≤ w.heap.size) (FX : Fr P base w X)
    (OT : X.ownsRow base 32 6 tv n xs) (OB : X.ownsRow base 4 1 bv n2 ys) (K : X.heap[g]? = some (.cells gc 32 (0, 0))) (hgP : P ≠ g)
    (h1 : w'.ownsRow base 4 1 v' (n2 + 1) zs) (h2 : (X.drew.alloc o).grownBy w' bv.ownBlock) :
    Sc (w'.setCell ⟨P, 5, none⟩ v') P M s a en tm tv v' ov ∧ (w'.setCell ⟨P, 5, none⟩ v').ownsRow base 32 6 tv n xs ∧ (w'.setCell ⟨P, 5, none⟩ v').ownsRow base 4 1 v' (n2 + 1) zs ∧ (w'.setCell ⟨P, 5, none⟩ v').heap[g]? = some (.cells gc 32 (0, 0)) ∧ Fr P base w (w'.setCell ⟨P, 5, none⟩ v') ∧ g < (w'.setCell ⟨P, 5, none⟩ v').heap.size := by
  have GX : Gr X (X.drew.alloc o) := ((Gr.refl X).drew).alloc o
  have hbX : base ≤ X.heap.size := Nat.le_trans hbw FX.size
  have hP1 : bv.ownBlock ≠ some P := own_apart OB (.inl hPb)
  have hM1 : bv.ownBlock ≠ some M := own_apart OB (.inl hMb)
  have hP2 : some P ≠ v'.ownBlock := fun e => own_apart h1 (.inl hPb) e.symm
  have S1 := (SX.gr GX).grown h2 hP1 hM1
  have ot1 := own_beside (ownsRow_gr OT GX) (ownsRow_gr OB GX) (by decide) h2
  have ot2 : some P ≠ tv.ownBlock := fun e => own_apart OT (.inl hPb) e.symm
  have hgo : some g ≠ bv.ownBlock := fun e => by
    obtain ⟨_, _, cur, hc⟩ := own_ge OB e.symm
    rw [K] at hc; injection hc with hc; injection hc with _ hc _; exact absurd hc (by decide)
  have kg : w'.heap[g]? = some (.cells gc 32 (0, 0)) := by
    rw [h2.block _ (Nat.lt_of_lt_of_le (Array.getElem?_eq_some_iff.1 K).1 GX.size) hgo, GX.block _ (Array.getElem?_eq_some_iff.1 K).1]; exact K
  have fr := Fr.but (Fr.grow (Fr.but FX (But.of_gr GX) hbX) h2 (Nat.le_trans hbX GX.size) (fun i e => (own_ge OB e).1)) (But.set (P := P) 5 v') (Nat.le_trans hbX (Nat.le_trans GX.size h2.size))
  exact ⟨S1.setBv v', own_set ot1 ot2 5 v', own_set h1 hP2 5 v', by simp [World.setCell, Array.getElem?_modify, hgP, kg], fr, by simpa [World.setCell] using (Array.getElem?_eq_some_iff.1 kg).1⟩
/-- the scanner keeps what is expected -/
theorem read7 {w X w' : World} {P M base : Nat} {s : ByteArray} {a en : Nat} {tm t2 : Bool} {tv bv ov : Value} {n n2 : Nat} {xs ys : List Value} (SX : Sc X P M s a en tm tv bv ov) (hPb : P < base) (hbw : base ≤ w.heap.size) (FX : Fr P base w X)
    (OT : X.ownsRow base 32 6 tv n xs) (OB : X.ownsRow base 4 1 bv n2 ys) (G : Gr X.drew w') :
    Sc (w'.setCell ⟨P, 3, none⟩ (.bool t2)) P M s a en t2 tv bv ov ∧ (w'.setCell ⟨P, 3, none⟩ (.bool t2)).ownsRow base 32 6 tv n xs ∧ (w'.setCell ⟨P, 3, none⟩ (.bool t2)).ownsRow base 4 1 bv n2 ys ∧ Fr P base w (w'.setCell ⟨P, 3, none⟩ (.bool t2)) := by
  have GX : Gr X w' := ((Gr.refl X).drew).trans G
  have hbX : base ≤ X.heap.size := Nat.le_trans hbw FX.size
  have hP1 : some P ≠ tv.ownBlock := fun e => own_apart OT (.inl hPb) e.symm
  have hP2 : some P ≠ bv.ownBlock := fun e => own_apart OB (.inl hPb) e.symm
  have fr := Fr.but (Fr.but FX (But.of_gr GX) hbX) (But.set (P := P) 3 (.bool t2)) (Nat.le_trans hbX GX.size)
  exact ⟨(SX.gr GX).setTm t2, own_set (ownsRow_gr OT GX) hP1 3 _, own_set (ownsRow_gr OB GX) hP2 3 _, fr⟩
/-- the scanner keeps where the last token ended -/
theorem read8 {w X : World} {P M base : Nat} {s : ByteArray} {b en : Nat} {tm : Bool} {tv bv ov : Value} {toks : List Tok} {terms : List Bool} {tk : Tok} {t0 : Bool} (SX : Sc X P M s b en tm tv bv ov) (hPb : P < base) (hbw : base ≤ w.heap.size) (FX : Fr P base w X)
    (OT : X.ownsRow base 32 6 tv (toks.length + 1) (cellsT toks ++ tk.cells)) (OB : X.ownsRow base 4 1 bv (terms.length + 1) (terms.map Value.bool ++ [.bool t0])) :
    Sc (X.setCell ⟨P, 2, none⟩ (.int .i64 b)) P M s b b tm tv bv ov ∧ Got (X.setCell ⟨P, 2, none⟩ (.int .i64 b)) base tv bv (toks ++ [tk]) (terms ++ [t0]) ∧ Fr P base w (X.setCell ⟨P, 2, none⟩ (.int .i64 b)) := by
  have hbX : base ≤ X.heap.size := Nat.le_trans hbw FX.size
  have hP1 : some P ≠ tv.ownBlock := fun e => own_apart OT (.inl hPb) e.symm
  have hP2 : some P ≠ bv.ownBlock := fun e => own_apart OB (.inl hPb) e.symm
  refine ⟨SX.setEn b, ⟨?_, ?_⟩, Fr.but FX (But.set (P := P) 2 (.int .i64 b)) hbX⟩
  · have := own_set OT hP1 2 (.int .i64 b)
    simpa [OwnT, cellsT] using this
  · have := own_set OB hP2 2 (.int .i64 b)
    simpa [OwnB] using this
/-- the scanner reads the token, from whatever world -/
def Token (P M : Nat) (s : ByteArray) (a b en : Nat) (tm : Bool) (tv bv ov : Value) (tk : Tok) : Prop := Reads 34 P M s a b en tm tv bv ov tk
set_option maxRecDepth 100000 in
set_option maxHeartbeats 4000000 in
theorem read_p {base : Nat} {toks : List Tok} {terms : List Bool} {k : Int} {tx rp mo : ByteArray} (h : Sc w P M s at_ en tm tv bv ov) (hG : Got w base tv bv toks terms) (hPb : P < base) (hMb : M < base) (hbw : base ≤ w.heap.size)
    (hT : Token P M s at_ b en tm tv bv ov ⟨k, 0, tx, rp, mo, 0⟩) (h1 : k = 3 → tx.data.toList ≠ [123]) (h2 : k = 3 → tx.data.toList ≠ [125]) (hn : toks.length ≤ 4000 ∧ terms.length ≤ 4000) :
    Calls Tryd.prog 23 #[.pointer (some ⟨P, 0, none⟩)] w fun e w' => ∃ tv' bv', e = .returned (.tuple #[]) ∧ Sc w' P M s b b (behindB k tx.data.toList 0 tm) tv' bv' ov ∧ Got w' base tv' bv' (toks ++ [⟨k, at_, tx, rp, mo, 0⟩]) (terms ++ [tm]) ∧ Fr P base w w' := by
  have H := Lib.hid h
  have HT := Lib.hid hT
  unfold Token Reads at HT
  rw [show Tok.val ⟨k, 0, tx, rp, mo, 0⟩ = .agg #[.int .i64 k, .int .i64 0, .string tx, .string rp, .string mo, .int .i64 0] from rfl] at HT
  have HB := Lib.hid (fun (hk : k = 3) d w => brace_no (P := P) tx d (h1 hk) (h2 hk) w)
  have HH := Lib.hid (fun w => behind_p k (at_ : Int) tx rp mo 0 tm w)
  have Ow := Lib.hid hG
  obtain ⟨c0, c1, c2, c3, c4, c5, c6, c7, cf⟩ := h.cells
  clear h hT h1 h2 hG
  go_enter Tryd.func23, Tryd.ntmps23
  go_wp2_with fail
  go_quiet (fail)
  clear c0 c1 c2 c3 c4 c5 c6 c7 cf
  go_wp2_with fail
  refine (HT.out _ (H.out.gr ((Gr.refl w).drewN _))).mono ?_
  rintro e w2 ⟨rfl, hS2, hb2⟩
  have S2 := Lib.hid hS2
  have B2 := Lib.hid ((But.of_gr (P := P) ((Gr.refl w).drewN nq)).trans hb2)
  clear hS2 hb2 HT
  by_cases hk3 : k = 3
  · subst hk3
    have HB3 := Lib.hid (HB.out rfl)
    clear HB
    go_wp2_with fail
    refine (HB3.out _ _).mono ?_
    rintro e w3 ⟨rfl, rfl⟩
    go_wp2_with fail
    generalize hX : w2.alloc (.cells #[.int .i64 3, .int .i64 (at_ : Int), .string tx, .string rp, .string mo, .int .i64 0] 32) = X
    have GX : Gr w2 X := by rw [← hX]; exact (Gr.refl w2).alloc _
    have SX := Lib.hid (S2.out.gr GX)
    have BX := Lib.hid (B2.out.trans (But.of_gr GX))
    have KX : Hid (X.heap[w2.heap.size]? = some (.cells #[.int .i64 3, .int .i64 (at_ : Int), .string tx, .string rp, .string mo, .int .i64 0] 32 (0, 0))) := Lib.hid (by rw [← hX]; exact heap_alloc_new w2 _)
    have hgB : w.heap.size ≤ w2.heap.size := B2.out.size
    clear hX GX S2 B2
    obtain ⟨kc, kf⟩ := cellsOf KX.out
    have t0 := kc 0
    have t1 := kc 1
    have t2 := kc 2
    have t3 := kc 3
    have t4 := kc 4
    have t5 := kc 5
    simp at t0 t1 t2 t3 t4 t5
    clear kc
    obtain ⟨c0, c1, c2, c3, c4, c5, c6, c7, cf⟩ := SX.out.cells
    obtain ⟨_, _, _, b3, b4, b5, _, _, _⟩ := (SX.out.gr ((Gr.refl X).alloc (.cells #[.int .i64 3, .int .i64 (at_ : Int), .string tx, .string rp, .string mo, .int .i64 0] 32))).cells
    have OT := Lib.hid (own_but Ow.out.tokR BX.out hPb)
    have OB := Lib.hid (own_but Ow.out.termR BX.out hPb)
    have hXs := Lib.hid BX.out.size
    obtain ⟨ti, hti, htz, hts, htb⟩ := info_parts infoTok
    obtain ⟨bi, hbi, hbz, hbs, hbb⟩ := info_parts infoBool
    go_cut [] from 31 (fun wx => ∃ tv', Sc wx P M s b en tm tv' bv ov ∧ wx.ownsRow base 32 6 tv' (toks.length + 1) (cellsT toks ++ #[.int .i64 3, .int .i64 (at_ : Int), .string tx, .string rp, .string mo, .int .i64 0].toList) ∧ OwnB wx base bv terms ∧ wx.heap[w2.heap.size]? = some (.cells #[.int .i64 3, .int .i64 (at_ : Int), .string tx, .string rp, .string mo, .int .i64 0] 32 (0, 0)) ∧ Fr P base w wx ∧ w2.heap.size < wx.heap.size)
    case first =>
      go_region_law (refine step_of rfl (wp_append_own _ (.tmp 35) (.tmp 37) 24 rfl base 32 ti (.agg #[.int .i64 0, .int .i64 0, .string ⟨#[]⟩, .string ⟨#[]⟩, .string ⟨#[]⟩, .int .i64 0]) 6 72 Tryd.underlying24 hti htz hts htb rfl (by decide) _ _ _ rfl (ownsRow_gr OT.out (((Gr.refl X).drew).alloc _)) ⟨X.heap.size, 0, none⟩ 1 1 #[.int .i64 3, .int .i64 (at_ : Int), .string tx, .string rp, .string mo, .int .i64 0].toList rfl rfl (fun j u hj => newCellsAt (by simp) hj) (by simp [Value.oneCell']) (by unfold maxLen; omega) (by omega) (by have := hXs.out; simp; omega) fun v' w' h1 h2 _ => ?_); obtain ⟨ao, cap, rfl⟩ := ownsRow_shape h1; have HR5 := Lib.hid (read5 SX.out hPb hMb hbw BX.out Ow.out.tokR Ow.out.termR hgB KX.out h1 h2); obtain ⟨_, _, _, _, d4, _, _, _, df⟩ := ((SX.out.gr (((Gr.refl X).drew).alloc _)).grown h2 (own_apart Ow.out.tokR (.inl hPb)) (own_apart Ow.out.tokR (.inl hMb))).cells; clear h1 h2)
      all_goals
        go_wp2_with fail
        go_meet
        obtain ⟨a1, a2, a3, a4, a5, a6⟩ := HR5.out
        exact ⟨_, a1, a2, a3, a4, a5, a6⟩
    case rest =>
    obtain ⟨tv', d1, d2, d3, d4, d5, d6⟩ := hcut
    have SW := Lib.hid d1
    have TW := Lib.hid d2
    have BW := Lib.hid d3
    have KW := Lib.hid d4
    have FW := Lib.hid d5
    have ZW := Lib.hid d6
    clear d1 d2 d3 d4 d5 d6 KX SX BX OT OB t0 t1 t2 t3 t4 t5 kf c0 c1 c2 c3 c4 c5 c6 c7 cf b3 b4 b5 hXs
    obtain ⟨c0, c1, c2, c3, c4, c5, c6, c7, cf⟩ := SW.out.cells
    obtain ⟨_, _, _, b3, b4, b5, _, _, _⟩ := (SW.out.gr ((Gr.refl wc).alloc (.cells #[.bool tm] 4))).cells
    have hwcs := Lib.hid FW.out.size
    go_wp2_with fail
    go_cut [] from 41 (fun wx => ∃ bv', Sc wx P M s b en tm tv' bv' ov ∧ wx.ownsRow base 32 6 tv' (toks.length + 1) (cellsT toks ++ #[.int .i64 3, .int .i64 (at_ : Int), .string tx, .string rp, .string mo, .int .i64 0].toList) ∧ wx.ownsRow base 4 1 bv' (terms.length + 1) (terms.map Value.bool ++ [.bool tm]) ∧ wx.heap[w2.heap.size]? = some (.cells #[.int .i64 3, .int .i64 (at_ : Int), .string tx, .string rp, .string mo, .int .i64 0] 32 (0, 0)) ∧ Fr P base w wx ∧ w2.heap.size < wx.heap.size)
    case first =>
      go_region_law (refine step_of rfl (wp_append_own _ (.tmp 45) (.tmp 50) 36 rfl base 4 bi (.bool false) 1 1 Tryd.underlying36 hbi hbz hbs hbb rfl (by decide) _ _ _ rfl (ownsRow_gr BW.out (((Gr.refl wc).drew).alloc _)) ⟨wc.heap.size, 0, none⟩ 1 1 [.bool tm] rfl rfl (fun j u hj => newCellsAt (by simp) hj) (by simp [Value.oneCell']) (by unfold maxLen; omega) (by omega) (by have := hwcs.out; simp; omega) fun v' w' h1 h2 _ => ?_); obtain ⟨ao, cap, rfl⟩ := ownsRow_shape h1; have HR6 := Lib.hid (read6 SW.out hPb hMb hbw FW.out TW.out BW.out KW.out (by omega) h1 h2); obtain ⟨_, _, _, _, _, d5, _, _, df⟩ := ((SW.out.gr (((Gr.refl wc).drew).alloc _)).grown h2 (own_apart BW.out (.inl hPb)) (own_apart BW.out (.inl hMb))).cells; clear h1 h2)
      all_goals
        go_wp2_with fail
        go_meet
        obtain ⟨a1, a2, a3, a4, a5, a6⟩ := HR6.out
        exact ⟨_, a1, a2, a3, a4, a5, a6⟩
    case rest =>
    obtain ⟨bv', d1, d2, d3, d4, d5, d6⟩ := hcut
    clear SW TW BW KW FW ZW c0 c1 c2 c3 c4 c5 c6 c7 cf b3 b4 b5 hwcs
    have SW := Lib.hid d1
    have TW := Lib.hid d2
    have BW := Lib.hid d3
    have KW := Lib.hid d4
    have FW := Lib.hid d5
    clear d1 d2 d3 d4 d5 d6
    obtain ⟨c0, c1, c2, c3, c4, c5, c6, c7, cf⟩ := SW.out.cells
    obtain ⟨kc, _⟩ := cellsOf KW.out
    have t0 := kc 0
    have t1 := kc 1
    have t2 := kc 2
    have t3 := kc 3
    have t4 := kc 4
    have t5 := kc 5
    simp at t0 t1 t2 t3 t4 t5
    clear kc
    go_wp2_with fail
    go_cut [] from 51 (fun wx => Sc wx P M s b en (behindB 3 tx.data.toList 0 tm) tv' bv' ov ∧ wx.ownsRow base 32 6 tv' (toks.length + 1) (cellsT toks ++ #[.int .i64 3, .int .i64 (at_ : Int), .string tx, .string rp, .string mo, .int .i64 0].toList) ∧ wx.ownsRow base 4 1 bv' (terms.length + 1) (terms.map Value.bool ++ [.bool tm]) ∧ Fr P base w wx)
    case first =>
      go_region_with (go_at_call 18; refine (HH.out _).mono ?_; rintro e9 w9 ⟨rfl, g9⟩; have G9 := Lib.hid g9; clear g9; have S9 := Lib.hid ((SW.out.gr ((Gr.refl _).drew)).gr G9.out); obtain ⟨_, _, _, d3, _, _, _, _, df⟩ := S9.out.cells)
      all_goals
        go_wp2_with fail
        go_meet
        exact read7 SW.out hPb hbw FW.out TW.out BW.out G9.out
    case rest =>
    clear SW TW BW KW FW c0 c1 c2 c3 c4 c5 c6 c7 cf t0 t1 t2 t3 t4 t5
    obtain ⟨d1, d2, d3, d4⟩ := hcut
    have SW := Lib.hid d1
    have TW := Lib.hid d2
    have BW := Lib.hid d3
    have FW := Lib.hid d4
    clear d1 d2 d3 d4
    obtain ⟨c0, c1, c2, c3, c4, c5, c6, c7, cf⟩ := SW.out.cells
    go_wp2_with fail
    go_end0
    obtain ⟨d1, d2, d3⟩ := read8 (tk := ⟨3, at_, tx, rp, mo, 0⟩) SW.out hPb hbw FW.out TW.out BW.out
    exact ⟨rfl, _, _, d1, d2, d3⟩
  · have hkb : (k == 3) = false := by simpa using hk3
    go_wp2_with fail
    generalize hX : w2.alloc (.cells #[.int .i64 k, .int .i64 (at_ : Int), .string tx, .string rp, .string mo, .int .i64 0] 32) = X
    have GX : Gr w2 X := by rw [← hX]; exact (Gr.refl w2).alloc _
    have SX := Lib.hid (S2.out.gr GX)
    have BX := Lib.hid (B2.out.trans (But.of_gr GX))
    have KX : Hid (X.heap[w2.heap.size]? = some (.cells #[.int .i64 k, .int .i64 (at_ : Int), .string tx, .string rp, .string mo, .int .i64 0] 32 (0, 0))) := Lib.hid (by rw [← hX]; exact heap_alloc_new w2 _)
    have hgB : w.heap.size ≤ w2.heap.size := B2.out.size
    clear hX GX S2 B2
    obtain ⟨kc, kf⟩ := cellsOf KX.out
    have t0 := kc 0
    have t1 := kc 1
    have t2 := kc 2
    have t3 := kc 3
    have t4 := kc 4
    have t5 := kc 5
    simp at t0 t1 t2 t3 t4 t5
    clear kc
    obtain ⟨c0, c1, c2, c3, c4, c5, c6, c7, cf⟩ := SX.out.cells
    obtain ⟨_, _, _, b3, b4, b5, _, _, _⟩ := (SX.out.gr ((Gr.refl X).alloc (.cells #[.int .i64 k, .int .i64 (at_ : Int), .string tx, .string rp, .string mo, .int .i64 0] 32))).cells
    have OT := Lib.hid (own_but Ow.out.tokR BX.out hPb)
    have OB := Lib.hid (own_but Ow.out.termR BX.out hPb)
    have hXs := Lib.hid BX.out.size
    obtain ⟨ti, hti, htz, hts, htb⟩ := info_parts infoTok
    obtain ⟨bi, hbi, hbz, hbs, hbb⟩ := info_parts infoBool
    go_cut [] from 31 (fun wx => ∃ tv', Sc wx P M s b en tm tv' bv ov ∧ wx.ownsRow base 32 6 tv' (toks.length + 1) (cellsT toks ++ #[.int .i64 k, .int .i64 (at_ : Int), .string tx, .string rp, .string mo, .int .i64 0].toList) ∧ OwnB wx base bv terms ∧ wx.heap[w2.heap.size]? = some (.cells #[.int .i64 k, .int .i64 (at_ : Int), .string tx, .string rp, .string mo, .int .i64 0] 32 (0, 0)) ∧ Fr P base w wx ∧ w2.heap.size < wx.heap.size)
    case first =>
      go_region_law (refine step_of rfl (wp_append_own _ (.tmp 35) (.tmp 37) 24 rfl base 32 ti (.agg #[.int .i64 0, .int .i64 0, .string ⟨#[]⟩, .string ⟨#[]⟩, .string ⟨#[]⟩, .int .i64 0]) 6 72 Tryd.underlying24 hti htz hts htb rfl (by decide) _ _ _ rfl (ownsRow_gr OT.out (((Gr.refl X).drew).alloc _)) ⟨X.heap.size, 0, none⟩ 1 1 #[.int .i64 k, .int .i64 (at_ : Int), .string tx, .string rp, .string mo, .int .i64 0].toList rfl rfl (fun j u hj => newCellsAt (by simp) hj) (by simp [Value.oneCell']) (by unfold maxLen; omega) (by omega) (by have := hXs.out; simp; omega) fun v' w' h1 h2 _ => ?_); obtain ⟨ao, cap, rfl⟩ := ownsRow_shape h1; have HR5 := Lib.hid (read5 SX.out hPb hMb hbw BX.out Ow.out.tokR Ow.out.termR hgB KX.out h1 h2); obtain ⟨_, _, _, _, d4, _, _, _, df⟩ := ((SX.out.gr (((Gr.refl X).drew).alloc _)).grown h2 (own_apart Ow.out.tokR (.inl hPb)) (own_apart Ow.out.tokR (.inl hMb))).cells; clear h1 h2)
      all_goals
        go_wp2_with fail
        go_meet
        obtain ⟨a1, a2, a3, a4, a5, a6⟩ := HR5.out
        exact ⟨_, a1, a2, a3, a4, a5, a6⟩
    case rest =>
    obtain ⟨tv', d1, d2, d3, d4, d5, d6⟩ := hcut
    have SW := Lib.hid d1
    have TW := Lib.hid d2
    have BW := Lib.hid d3
    have KW := Lib.hid d4
    have FW := Lib.hid d5
    have ZW := Lib.hid d6
    clear d1 d2 d3 d4 d5 d6 KX SX BX OT OB t0 t1 t2 t3 t4 t5 kf c0 c1 c2 c3 c4 c5 c6 c7 cf b3 b4 b5 hXs
    obtain ⟨c0, c1, c2, c3, c4, c5, c6, c7, cf⟩ := SW.out.cells
    obtain ⟨_, _, _, b3, b4, b5, _, _, _⟩ := (SW.out.gr ((Gr.refl wc).alloc (.cells #[.bool tm] 4))).cells
    have hwcs := Lib.hid FW.out.size
    go_wp2_with fail
    go_cut [] from 41 (fun wx => ∃ bv', Sc wx P M s b en tm tv' bv' ov ∧ wx.ownsRow base 32 6 tv' (toks.length + 1) (cellsT toks ++ #[.int .i64 k, .int .i64 (at_ : Int), .string tx, .string rp, .string mo, .int .i64 0].toList) ∧ wx.ownsRow base 4 1 bv' (terms.length + 1) (terms.map Value.bool ++ [.bool tm]) ∧ wx.heap[w2.heap.size]? = some (.cells #[.int .i64 k, .int .i64 (at_ : Int), .string tx, .string rp, .string mo, .int .i64 0] 32 (0, 0)) ∧ Fr P base w wx ∧ w2.heap.size < wx.heap.size)
    case first =>
      go_region_law (refine step_of rfl (wp_append_own _ (.tmp 45) (.tmp 50) 36 rfl base 4 bi (.bool false) 1 1 Tryd.underlying36 hbi hbz hbs hbb rfl (by decide) _ _ _ rfl (ownsRow_gr BW.out (((Gr.refl wc).drew).alloc _)) ⟨wc.heap.size, 0, none⟩ 1 1 [.bool tm] rfl rfl (fun j u hj => newCellsAt (by simp) hj) (by simp [Value.oneCell']) (by unfold maxLen; omega) (by omega) (by have := hwcs.out; simp; omega) fun v' w' h1 h2 _ => ?_); obtain ⟨ao, cap, rfl⟩ := ownsRow_shape h1; have HR6 := Lib.hid (read6 SW.out hPb hMb hbw FW.out TW.out BW.out KW.out (by omega) h1 h2); obtain ⟨_, _, _, _, _, d5, _, _, df⟩ := ((SW.out.gr (((Gr.refl wc).drew).alloc _)).grown h2 (own_apart BW.out (.inl hPb)) (own_apart BW.out (.inl hMb))).cells; clear h1 h2)
      all_goals
        go_wp2_with fail
        go_meet
        obtain ⟨a1, a2, a3, a4, a5, a6⟩ := HR6.out
        exact ⟨_, a1, a2, a3, a4, a5, a6⟩
    case rest =>
    obtain ⟨bv', d1, d2, d3, d4, d5, d6⟩ := hcut
    clear SW TW BW KW FW ZW c0 c1 c2 c3 c4 c5 c6 c7 cf b3 b4 b5 hwcs
    have SW := Lib.hid d1
    have TW := Lib.hid d2
    have BW := Lib.hid d3
    have KW := Lib.hid d4
    have FW := Lib.hid d5
    clear d1 d2 d3 d4 d5 d6
    obtain ⟨c0, c1, c2, c3, c4, c5, c6, c7, cf⟩ := SW.out.cells
    obtain ⟨kc, _⟩ := cellsOf KW.out
    have t0 := kc 0
    have t1 := kc 1
    have t2 := kc 2
    have t3 := kc 3
    have t4 := kc 4
    have t5 := kc 5
    simp at t0 t1 t2 t3 t4 t5
    clear kc
    go_wp2_with fail
    go_cut [] from 51 (fun wx => Sc wx P M s b en (behindB k tx.data.toList 0 tm) tv' bv' ov ∧ wx.ownsRow base 32 6 tv' (toks.length + 1) (cellsT toks ++ #[.int .i64 k, .int .i64 (at_ : Int), .string tx, .string rp, .string mo, .int .i64 0].toList) ∧ wx.ownsRow base 4 1 bv' (terms.length + 1) (terms.map Value.bool ++ [.bool tm]) ∧ Fr P base w wx)
    case first =>
      go_region_with (go_at_call 18; refine (HH.out _).mono ?_; rintro e9 w9 ⟨rfl, g9⟩; have G9 := Lib.hid g9; clear g9; have S9 := Lib.hid ((SW.out.gr ((Gr.refl _).drew)).gr G9.out); obtain ⟨_, _, _, d3, _, _, _, _, df⟩ := S9.out.cells)
      all_goals
        go_wp2_with fail
        go_meet
        exact read7 SW.out hPb hbw FW.out TW.out BW.out G9.out
    case rest =>
    clear SW TW BW KW FW c0 c1 c2 c3 c4 c5 c6 c7 cf t0 t1 t2 t3 t4 t5
    obtain ⟨d1, d2, d3, d4⟩ := hcut
    have SW := Lib.hid d1
    have TW := Lib.hid d2
    have BW := Lib.hid d3
    have FW := Lib.hid d4
    clear d1 d2 d3 d4
    obtain ⟨c0, c1, c2, c3, c4, c5, c6, c7, cf⟩ := SW.out.cells
    go_wp2_with fail
    go_end0
    obtain ⟨d1, d2, d3⟩ := read8 (tk := ⟨k, at_, tx, rp, mo, 0⟩) SW.out hPb hbw FW.out TW.out BW.out
    exact ⟨rfl, _, _, d1, d2, d3⟩
end Go.Proofs.YthmopindibdhnaaDoor
namespace Go.Proofs.YthmopindibdhnaaDoor
open Go.RowKit Go.Shelf
variable {w : World} {P M : Nat} {s : ByteArray} {at_ en : Nat} {tm : Bool} {tv bv ov : Value}
set_option maxRecDepth 100000 in
set_option maxHeartbeats 1000000 in
theorem skip_p (h : Sc w P M s at_ en tm tv bv ov) (hs : s.size ≤ 140737488351232) (b : Nat) (hab : at_ ≤ b) (hb : b ≤ s.data.toList.length) (hbl : ∀ n (_ : at_ ≤ n) (_ : n < b) (h : n < s.data.toList.length), blkB (s.data.toList[n].toNat : Int) = true) (hst : ∀ (h : b < s.data.toList.length), blkB (s.data.toList[b].toNat : Int) = false ∧ s.data.toList[b] ≠ 35) :
    Calls Tryd.prog 22 #[.pointer (some ⟨P, 0, none⟩)] w fun e w' => e = .returned (.bool (decide (b < s.data.toList.length))) ∧ Sc w' P M s b en tm tv bv ov ∧ But P w w' := by
  have H := Lib.hid h
  obtain ⟨l, hl⟩ : ∃ l, l = s.data.toList := ⟨_, rfl⟩
  have hsz : s.size = l.length := by rw [hl, ← sizeL]
  have HB := Lib.hid (fun n (h : n < s.size) (h' : n < l.length) => (show s[n] = l[n] by subst hl; exact byteE s n h h'))
  have HST := Lib.hid (fun (W : World) (k : Nat) (hk : k ≤ 140737488351232) (hS : Sc W P M s k en tm tv bv ov) => step_p hS hk)
  have HK := Lib.hid (fun x w => blk_p x w)
  rw [← hl] at hb ⊢
  have HL : Hid (∀ n (_ : at_ ≤ n) (_ : n < b) (h : n < l.length), blkB (l[n].toNat : Int) = true) := Lib.hid (by subst hl; exact hbl)
  have HT : Hid (∀ (h : b < l.length), blkB (l[b].toNat : Int) = false ∧ l[b] ≠ 35) := Lib.hid (by subst hl; exact hst)
  have Hsz := Lib.hid hsz
  have Hb := Lib.hid hb
  have HR : Hid (decide (b < l.length) = decide (b < l.length)) := Lib.hid rfl
  generalize hRR : decide (b < l.length) = R at *
  have HR2 : Hid (R = decide (b < l.length)) := Lib.hid hRR.symm
  clear h hl hsz hbl hst hb HR hRR
  go_enter Tryd.func22, Tryd.ntmps22
  go_wp2_with fail
  go_loopw [3] (fun _ wr => ∃ n : Nat, at_ ≤ n ∧ n ≤ b ∧ Sc wr P M s n en tm tv bv ov ∧ But P w wr) (fun _ wr => atLeft s.size P wr)
  case atStart => exact ⟨at_, Nat.le_refl _, hab, H.out, But.refl P w⟩
  case round =>
    obtain ⟨n, han, hnb, hS, hBu⟩ := hrel
    have S := Lib.hid hS
    have Bu := Lib.hid hBu
    clear hS hBu
    obtain ⟨c0, c1, c2, c3, c4, c5, c6, c7, cf⟩ := S.out.cells
    have C1 := Lib.hid c1
    have Hab := Lib.hid hab
    have Han := Lib.hid han
    have Hnb := Lib.hid hnb
    by_cases hc : n < l.length
    · have hsn : n < s.size := by rw [Hsz.out]; exact hc
      have hc' : (n : Int) < (s.size : Int) := by omega
      have ex := HB.out n hsn hc
      have hk : n ≤ 140737488351232 := by omega
      by_cases hb1 : n < b
      · have eb := HL.out n han hb1 hc
        have Hb1 := Lib.hid hb1
        have Hk := Lib.hid hk
        have Hsn := Lib.hid hsn
        generalize l[n] = x at *
        clear hab han hnb hb1 hk HL HT HB hc
        go_wp2_with fail
        go_quiet (fail)
        go_wp2_with fail
        go_quiet (fail)
        go_wp2_with fail
        refine (HK.out _ _).mono ?_
        rintro e w2 ⟨rfl, rfl⟩
        go_wp2_with fail
        refine (HST.out _ n Hk.out (S.out.gr ((Gr.refl _).drewN _))).mono ?_
        rintro e w2 ⟨rfl, hS2, hb2⟩
        have S2 := Lib.hid hS2
        have Bu2 := Lib.hid hb2
        clear hS2 hb2
        go_wp2_with fail
        go_roundw
        case rel => have := Han.out; have := Hb1.out; exact ⟨n + 1, by omega, by omega, S2.out, (Bu.out.trans (But.of_gr ((Gr.refl _).drewN _))).trans Bu2.out⟩
        case measure =>
          have e1 := C1.out
          have e2 := S2.out.cells.2.1
          have := Hsn.out
          simp only [atLeft, e1, e2]
          omega
      · obtain rfl : n = b := by omega
        obtain ⟨t0, t1⟩ := HT.out hc
        have t2 : ((l[n].toNat : Int) == 35) = false := by
          simp only [beq_eq_false_iff_ne, ne_eq]
          intro h
          exact t1 (UInt8.toNat_inj.1 (by simpa using Int.ofNat.inj h))
        have hR : decide (n < l.length) = true := by simpa using hc
        have E : Hid (R = true) := Lib.hid (by rw [HR2.out, hR])
        generalize l[n] = x at *
        clear hab han hnb hb1 hk HL HT HB hc hR t1 HR2 Hb Hab Han Hnb
        go_wp2_with fail
        go_quiet (fail)
        go_wp2_with fail
        go_quiet (fail)
        go_wp2_with fail
        refine (HK.out _ _).mono ?_
        rintro e w2 ⟨rfl, rfl⟩
        go_wp2_with fail
        go_ret
        rw [E.out]
        exact ⟨rfl, S.out.gr ((Gr.refl _).drewN _), Bu.out.trans (But.of_gr ((Gr.refl _).drewN _))⟩
    · have hnl : n = l.length := by have := Hb.out; omega
      have hbl : b = n := by have := Hb.out; omega
      have hR : decide (b < l.length) = false := by simp; omega
      have g1 : decide (n < s.size) = false := by rw [Hsz.out]; simp; omega
      have g2 : decide ((n : Int) < (s.size : Int)) = false := by rw [Hsz.out]; simp; omega
      have E : Hid (R = false) := Lib.hid (by rw [HR2.out, hR])
      subst hbl
      clear hnl hR HR2 hc hab han hnb HL HT HB Hb Hab Han Hnb
      go_wp2_with fail
      go_quiet (fail)
      go_wp2_with fail
      go_ret
      rw [E.out]
      exact ⟨rfl, S.out.gr ((Gr.refl _).drewN _), Bu.out.trans (But.of_gr ((Gr.refl _).drewN _))⟩
end Go.Proofs.YthmopindibdhnaaDoor
namespace Go.Proofs.YthmopindibdhnaaDoor
open Go.RowKit Go.Shelf
theorem assert_none (w : World) : (Instr.typeAssert Value.nilIface 20 59 true).run Tryd.prog w = .ok (.tuple #[.int .i64 0, .bool false]) w := by kernel_rfl
set_option maxRecDepth 10000 in
theorem catch_idle (p : Addr) (w : World) :
    CallsD Tryd.prog 21 #[.pointer (some p)] .returning w fun e u' w' => e = .returned (.tuple #[]) ∧ u' = .returning ∧ w' = w := by
  refine callsD_of_wpS Tryd.func21 rfl fun c₀ cs hu => ?_
  have hA : (#[Value.pointer (some p)] ++ Array.replicate (Tryd.f21.ntmps - (#[Value.pointer (some p)] : Array Value).size) undef) = #[Value.pointer (some p), undef, undef, undef, undef, undef, undef, undef, undef, undef] := by kernel_rfl
  rw [hA]
  clear hA
  apply wpS_seq
  apply wpS_region
  simp [wpOpsS, go_sem, recoverD, hu, assert_none, Exit.thenS]
  apply wpS_seq
  apply wpS_region
  simp [wpOpsS, go_sem, Exit.thenS]
  refine wpS_cond (t := false) (by simp [Act.eval]) ?_
  simp only [Bool.false_eq_true, if_false]
  refine wpS_of_wp (wp_skip ?_)
  cases c₀
  simp_all [bodyPostS, results, Tryd.results21]
/-- the steps of the scanner from a place on: blanks and tokens -/
inductive Steps (s : ByteArray) : Nat → Nat → Bool → List Tok → List Bool → Prop
  | done {at_ en : Nat} {tm : Bool} (h : at_ ≤ s.data.toList.length) (hb : ∀ n (_ : at_ ≤ n) (h : n < s.data.toList.length), blkB (s.data.toList[n].toNat : Int) = true) : Steps s at_ en tm [] []
  | tok {at_ en a b : Nat} {tm : Bool} {k : Int} {tx rp mo : ByteArray} {toks : List Tok} {terms : List Bool} (ha : at_ ≤ a) (hl : a < s.data.toList.length) (hb : ∀ n (_ : at_ ≤ n) (_ : n < a) (h : n < s.data.toList.length), blkB (s.data.toList[n].toNat : Int) = true)
    (hn : blkB (s.data.toList[a].toNat : Int) = false ∧ s.data.toList[a] ≠ 35) (hab : a < b) (hT : ∀ P M tv bv ov, Token P M s a b en tm tv bv ov ⟨k, 0, tx, rp, mo, 0⟩) (h1 : k = 3 → tx.data.toList ≠ [123]) (h2 : k = 3 → tx.data.toList ≠ [125])
    (h : Steps s b b (behindB k tx.data.toList 0 tm) toks terms) : Steps s at_ en tm (⟨k, a, tx, rp, mo, 0⟩ :: toks) (tm :: terms)
variable {w : World} {P M : Nat} {s : ByteArray} {at_ en : Nat} {tm : Bool} {tv bv ov : Value} {toks : List Tok} {terms : List Bool}
theorem Fr.trans {base : Nat} {a b c : World} (h : Fr P base a b) (k : Fr P base b c) : Fr P base a c :=
  ⟨k.os.trans h.os, k.tape.trans h.tape, k.output.trans h.output, Nat.le_trans h.size k.size, fun i h1 h2 => (k.block i h1 h2).trans (h.block i h1 h2)⟩
theorem Fr.of_but {base : Nat} {a b : World} (k : But P a b) (hb : base ≤ a.heap.size) : Fr P base a b := Fr.but (Fr.refl P base a) k hb
theorem skip_t {b : Nat} (h : Sc w P M s at_ en tm tv bv ov) (hs : s.size ≤ 140737488351232) (hab : at_ ≤ b) (hb : b < s.data.toList.length) (hbl : ∀ n (_ : at_ ≤ n) (_ : n < b) (h : n < s.data.toList.length), blkB (s.data.toList[n].toNat : Int) = true) (hn : blkB (s.data.toList[b].toNat : Int) = false ∧ s.data.toList[b] ≠ 35) :
    Calls Tryd.prog 22 #[.pointer (some ⟨P, 0, none⟩)] w fun e w' => e = .returned (.bool true) ∧ Sc w' P M s b en tm tv bv ov ∧ But P w w' := by
  have := skip_p h hs b hab (Nat.le_of_lt hb) hbl (fun _ => hn)
  rw [show decide (b < s.data.toList.length) = true by simpa using hb] at this
  exact this
theorem skip_f (h : Sc w P M s at_ en tm tv bv ov) (hs : s.size ≤ 140737488351232) (hab : at_ ≤ s.data.toList.length) (hbl : ∀ n (_ : at_ ≤ n) (h : n < s.data.toList.length), blkB (s.data.toList[n].toNat : Int) = true) :
    Calls Tryd.prog 22 #[.pointer (some ⟨P, 0, none⟩)] w fun e w' => e = .returned (.bool false) ∧ Sc w' P M s s.data.toList.length en tm tv bv ov ∧ But P w w' := by
  have := skip_p h hs s.data.toList.length hab (Nat.le_refl _) (fun n h1 _ h => hbl n h1 h) (fun h => absurd h (Nat.lt_irrefl _))
  rw [show decide (s.data.toList.length < s.data.toList.length) = false by simp] at this
  exact this
theorem Got.but {w w' : World} {base : Nat} (h : Got w base tv bv toks terms) (k : But P w w') (hP : P < base) : Got w' base tv bv toks terms := ⟨own_but h.tokR k hP, own_but h.termR k hP⟩
theorem Sc.other (h : Sc w P M s at_ en tm tv bv ov) {g j : Nat} {v : Value} (h1 : g ≠ P) (h2 : g ≠ M) : Sc (w.setCell ⟨g, j, none⟩ v) P M s at_ en tm tv bv ov :=
  ⟨by simp [World.setCell, Array.getElem?_modify, h1, h.blk], by simp [World.setCell, Array.getElem?_modify, h2, h.mp], h.ne⟩
theorem Got.other {base : Nat} (h : Got w base tv bv toks terms) {g j : Nat} {v : Value} (h1 : g < base) : Got (w.setCell ⟨g, j, none⟩ v) base tv bv toks terms :=
  ⟨own_set h.tokR (fun e => own_apart h.tokR (.inl h1) e.symm) j v, own_set h.termR (fun e => own_apart h.termR (.inl h1) e.symm) j v⟩
theorem Got.nil (w : World) (base : Nat) : Got w base (.slice none 0 0) (.slice none 0 0) [] [] := ⟨⟨by simp [cellsT], .inl ⟨rfl, rfl⟩⟩, ⟨by simp, .inl ⟨rfl, rfl⟩⟩⟩
theorem Steps.le (h : Steps s at_ en tm toks terms) : at_ ≤ s.data.toList.length := by
  cases h with
  | done h _ => exact h
  | tok ha hl => omega
set_option maxRecDepth 100000 in
set_option maxHeartbeats 2000000 in
theorem run_p (h : Sc w P M s at_ en tm (.slice none 0 0) (.slice none 0 0) ov) (hs : s.size ≤ 140737488351232) (hS : Steps s at_ en tm toks terms) (hn : toks.length ≤ 4000 ∧ terms.length ≤ 4000) :
    Calls Tryd.prog 12 #[.pointer (some ⟨P, 0, none⟩)] w fun e w' => ∃ (a2 e2 : Nat) (t2 : Bool) (tv bv : Value), e = .returned (.int .i64 s.size) ∧ Sc w' P M s a2 e2 t2 tv bv ov ∧ Got w' (w.heap.size + 1) tv bv toks terms ∧ Fr P w.heap.size w w' := by
  have H := Lib.hid h
  have HS := Lib.hid hS
  have hmf : ∀ (fn : Fn) (first cap : Array Value) (w : World), (Instr.makeFunc fn first cap).run Tryd.prog w = .ok (.func fn first cap) w := fun _ _ _ _ => rfl
  obtain ⟨c0, c1, c2, c3, c4, c5, c6, c7, cf⟩ := (h.gr ((Gr.refl w).alloc (.cells #[.int .i64 0] 3))).cells
  have hP := h.lt.1
  have hM := h.lt.2
  clear h hS
  go_enter_defers Tryd.func12, Tryd.ntmps12
  go_wp2_with fail
  generalize hW : w.alloc (.cells #[.int .i64 (s.size : Int)] 3) = W1 at *
  have S1 := Lib.hid (by rw [← hW]; exact H.out.gr ((Gr.refl w).alloc _) : Sc W1 P M s at_ en tm (.slice none 0 0) (.slice none 0 0) ov)
  have R1 := Lib.hid (by rw [← hW]; exact heap_alloc_new w _ : W1.heap[w.heap.size]? = some (.cells #[.int .i64 (s.size : Int)] 3 (0, 0)))
  have F1 := Lib.hid (by rw [← hW]; exact Fr.of_but (But.of_gr ((Gr.refl w).alloc _)) (Nat.le_refl _) : Fr P w.heap.size w W1)
  have Z1 := Lib.hid (by rw [← hW]; simp : W1.heap.size = w.heap.size + 1)
  clear hW c0 c1 c2 c3 c4 c5 c6 c7 cf
  have Hn := Lib.hid hn
  clear hn
  go_loopw [] (fun wr => ∃ (a e : Nat) (t : Bool) (tv bv : Value) (tk1 : List Tok) (tm1 : List Bool) (tk2 : List Tok) (tm2 : List Bool), toks = tk1 ++ tk2 ∧ terms = tm1 ++ tm2 ∧ Hid (Steps s a e t tk2 tm2) ∧ Sc wr P M s a e t tv bv ov ∧ Got wr (w.heap.size + 1) tv bv tk1 tm1 ∧ Fr P (w.heap.size + 1) W1 wr) (fun wr => atLeft s.size P wr)
  case atStart => exact ⟨at_, en, tm, _, _, [], [], toks, terms, rfl, rfl, HS, S1.out, Got.nil _ _, Fr.refl _ _ _⟩
  case round =>
    obtain ⟨a, e, t, tv, bv, tk1, tm1, tk2, tm2, ht1, ht2, hSt, hSc, hG, hF⟩ := hrel
    have S := Lib.hid hSc
    have G := Lib.hid hG
    have F := Lib.hid hF
    have T1 := Lib.hid ht1
    have T2 := Lib.hid ht2
    clear hSc hG hF ht1 ht2
    have hle := hSt.out.le
    have hPs : P < w.heap.size + 1 := by omega
    have hMs : M < w.heap.size + 1 := by omega
    cases hSt.out with
    | done hl hb =>
      have Hle := Lib.hid hle
      have Hb := Lib.hid hb
      clear hle hl hb
      go_wp2_with fail
      refine (skip_f S.out hs Hle.out Hb.out).mono ?_
      rintro e w2 ⟨rfl, hS2, hb2⟩
      have S2 := Lib.hid hS2
      have F2 := Lib.hid (Fr.but F.out hb2 (by have := F.out.size; have := Z1.out; omega))
      have G2 := Lib.hid (G.out.but hb2 hPs)
      have hne : w.heap.size ≠ P := by omega
      have hR2 : w2.heap[w.heap.size]? = some (.cells #[.int .i64 (s.size : Int)] 3 (0, 0)) := by
        rw [F2.out.block _ (Nat.lt_succ_self _) hne]; exact R1.out
      obtain ⟨kc, kf⟩ := cellsOf hR2
      have k0 := kc 0
      simp at k0
      have kf0 := kf 0
      have HR2 := Lib.hid hR2
      have e1 : toks = tk1 := by rw [T1.out, List.append_nil]
      have e2 : terms = tm1 := by rw [T2.out, List.append_nil]
      clear hS2 hb2 kc kf hR2
      go_wp2_with fail
      refine leaves_cons (f := 21) (args := #[.pointer (some ⟨w.heap.size, 0, none⟩)]) (by simp) (by simp [go_sem]) ?_
      refine (catch_idle ⟨w.heap.size, 0, none⟩ _).mono ?_
      rintro e u' w'' ⟨rfl, rfl, rfl⟩
      have kc2 : (w2.setCell ⟨w.heap.size, 0, none⟩ (.int .i64 (s.size : Int))).cell? ⟨w.heap.size, 0, none⟩ = some (.int .i64 (s.size : Int)) := by
        have e := HR2.out
        simp [World.cell?, World.setCell, Array.getElem?_modify, e]
      refine ⟨.int .i64 (s.size : Int), by simp [results, Tryd.results12, go_sem, kc2], _, _, _, _, _, rfl, S2.out.other hne (by omega), by rw [e1, e2]; exact G2.out.other (Nat.lt_succ_self _), ?_⟩
      refine ⟨F2.out.os.trans F1.out.os, F2.out.tape.trans F1.out.tape, F2.out.output.trans F1.out.output, ?_, fun i h1 h2 => ?_⟩
      · have := F2.out.size; have := F1.out.size; simp [World.setCell]; omega
      · have e3 := F2.out.block i (by omega) h2
        have e4 := F1.out.block i h1 h2
        have : w.heap.size ≠ i := by omega
        simp [World.setCell, Array.getElem?_modify, this]
        exact e3.trans e4
    | tok ha hl hb hn hab hT h1 h2 hr =>
      have Hha := Lib.hid ha
      have Hhl := Lib.hid hl
      have Hhb := Lib.hid hb
      rename_i a' b' k tx rp mo toks' terms'
      have Hhn : Hid (∀ h : a' < s.data.toList.length, blkB (s.data.toList[a'].toNat : Int) = false ∧ s.data.toList[a'] ≠ 35) := Lib.hid (fun _ => hn)
      have Hab := Lib.hid hab
      have HhT := Lib.hid hT
      have Hh1 := Lib.hid h1
      have Hh2 := Lib.hid h2
      have Hr := Lib.hid hr
      clear hle ha hl hb hn hab hT h1 h2 hr
      go_wp2_with fail
      refine (skip_t S.out hs Hha.out Hhl.out Hhb.out (Hhn.out Hhl.out)).mono ?_
      rintro e w2 ⟨rfl, hS2, hb2⟩
      have hq : w.heap.size + 1 ≤ w2.heap.size := by have := F.out.size; have := Z1.out; have := hb2.size; omega
      have S2 := Lib.hid hS2
      have F2 := Lib.hid (Fr.but F.out hb2 (by have := F.out.size; have := Z1.out; omega))
      have G2 := Lib.hid (G.out.but hb2 hPs)
      clear hS2 hb2
      go_wp2_with fail
      refine (read_p S2.out G2.out hPs hMs hq (HhT.out _ _ _ _ _) Hh1.out Hh2.out (by have := Hn.out; rw [T1.out, T2.out] at this; simp at this; omega)).mono ?_
      rintro e w3 ⟨tv3, bv3, rfl, hS3, hG3, hF3⟩
      have S3 := Lib.hid hS3
      have F3 := Lib.hid (F2.out.trans hF3)
      have G3 := Lib.hid hG3
      clear hS3 hG3 hF3
      go_wp2_with fail
      go_roundw
      case rel => exact ⟨_, _, _, tv3, bv3, _, _, _, _, by rw [T1.out]; simp, by rw [T2.out]; simp, Hr, S3.out, G3.out, F3.out⟩
      case measure =>
        have e1 := S.out.cells.2.1
        have e2 := S3.out.cells.2.1
        have := Hab.out
        have := Hha.out
        have := Hhl.out
        rw [sizeL] at this
        simp only [atLeft, e1, e2]
        omega
end Go.Proofs.YthmopindibdhnaaDoor
namespace Go.Proofs.YthmopindibdhnaaDoor
open Go.RowKit Go.Shelf
def ownB (c : Int) : Bool := c == 9 || c == 10 || (decide (32 ≤ c) && decide (c ≤ 126))
set_option maxRecDepth 100000 in
set_option maxHeartbeats 1000000 in
theorem foreign_no (s : ByteArray) (hs : s.size ≤ 140737488351232) (h : ∀ n (h : n < s.data.toList.length), ownB (s.data.toList[n].toNat : Int) = true) (w : World) :
    Calls Tryd.prog 13 #[.string s] w fun e w' => e = .returned (.int .i64 s.size) ∧ Gr w w' := by
  obtain ⟨l, hl⟩ : ∃ l, l = s.data.toList := ⟨_, rfl⟩
  have hsz : s.size = l.length := by rw [hl, ← sizeL]
  have HB := Lib.hid (fun n (h : n < s.size) (h' : n < l.length) => (show s[n] = l[n] by subst hl; exact byteE s n h h'))
  have HO : Hid (∀ n (h : n < l.length), ownB (l[n].toNat : Int) = true) := Lib.hid (by subst hl; exact h)
  have Hsz := Lib.hid hsz
  clear h hl hsz
  go_enter Tryd.func13, Tryd.ntmps13
  go_wp2_with fail
  go_loopw [3, 4, 7] (fun _ _ iv wr => ∃ i : Nat, iv = .int .i64 (i : Int) ∧ i ≤ s.size ∧ Gr w wr) (fun _ _ iv _ => leftTo s.size iv)
  case atStart => exact ⟨0, rfl, Nat.zero_le _, Gr.refl w⟩
  case round =>
    obtain ⟨i, rfl, hi, hg⟩ := hrel
    have Hg := Lib.hid hg
    clear hg
    by_cases hc : i < s.size
    · have hci : (i : Int) < (s.size : Int) := by omega
      have hL : i < l.length := by rw [← Hsz.out]; exact hc
      have ex := HB.out i hc hL
      have ho := HO.out i hL
      generalize l[i] = x at *
      clear HB HO hL
      have hx : (x.toNat : Int) = 9 ∨ (x.toNat : Int) = 10 ∨ ((x.toNat : Int) ≠ 9 ∧ (x.toNat : Int) ≠ 10 ∧ 32 ≤ (x.toNat : Int) ∧ (x.toNat : Int) ≤ 126) := by
        simp only [ownB, Bool.or_eq_true, Bool.and_eq_true, beq_iff_eq, decide_eq_true_eq] at ho
        omega
      have hi1 : (i : Int) + 1 ≤ 9223372036854775807 := by omega
      have hi2 : -9223372036854775808 ≤ (i : Int) + 1 := by omega
      clear ho
      rcases hx with hx | hx | ⟨h1, h2, h3, h4⟩
      · have t1 : ((x.toNat : Int) != 9) = false := by simp [hx]
        clear hx
        go_wp2_with fail
        go_roundw
        case rel => exact ⟨i + 1, rfl, hc, Hg.out⟩
        case measure => simp only [leftTo]; omega
      · have t1 : ((x.toNat : Int) != 9) = true := by simp [hx]
        have t2 : ((x.toNat : Int) != 10) = false := by simp [hx]
        clear hx
        go_wp2_with fail
        go_roundw
        case rel => exact ⟨i + 1, rfl, hc, Hg.out⟩
        case measure => simp only [leftTo]; omega
      · have t1 : ((x.toNat : Int) != 9) = true := by simpa using h1
        have t2 : ((x.toNat : Int) != 10) = true := by simpa using h2
        have t3 : ¬ (x.toNat : Int) < 32 := by omega
        have t4 : ¬ 126 < (x.toNat : Int) := by omega
        clear h1 h2 h3 h4
        go_wp2_with fail
        go_roundw
        case rel => exact ⟨i + 1, rfl, hc, Hg.out⟩
        case measure => simp only [leftTo]; omega
    · have hci : decide ((i : Int) < (s.size : Int)) = false := by simp; omega
      have hci' : decide (i < s.size) = false := by simp; omega
      clear HB HO hc
      go_wp2_with fail
      go_ret
      exact ⟨rfl, Hg.out⟩
end Go.Proofs.YthmopindibdhnaaDoor
