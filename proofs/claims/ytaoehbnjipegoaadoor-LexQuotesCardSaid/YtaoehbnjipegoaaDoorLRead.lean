/- The scanner reads a token. -/
import Derived.Test.YtaoehbnjipegoaaDoorLBeh
import Derived.Deep.RegionLaw
import Derived.Deep.Cut
namespace Go.Proofs.YtaoehbnjipegoaaDoor
open Go.RowKit Go.Shelf
theorem step_of {P : Program} {o : Oper} {ops : Array Oper} {a : Act} {w : World} {K : Act → World → Prop} {Q : Exit → Act → World → Prop} {E : Prop} (hg : o.guard = none) (h : Oper.wp P o a w K Q) :
    if Region.wanted o (yielded ops a.tmps) = true then Oper.wp P o a w K Q else E := by
  rw [if_pos (by simp [Region.wanted, hg])]; exact h
theorem newCellsAt {X : World} {g : Nat} (hg : X.heap.size = g) {l : List Value} {t : TypeId} {j : Nat} {u : Value} (h : l[j]? = some u) : (X.alloc (.cells l.toArray t)).cell? ((⟨g, 0, none⟩ : Addr).add j) = some u := by
  subst hg
  rw [Addr.add_lit, cell_of_row _ _ _ l.toArray t (0, 0) (heap_alloc_new X _), Nat.zero_add]
  simpa using h
theorem infoTok : (Tryd.prog.info? 32).map (fun i => (i.zero, i.size, i.bytes)) = some (some (.agg #[.int .i64 0, .int .i64 0, .string ⟨#[]⟩, .string ⟨#[]⟩, .string ⟨#[]⟩, .int .i64 0]), 6, 72) := by kernel_rfl
theorem infoBool : (Tryd.prog.info? 4).map (fun i => (i.zero, i.size, i.bytes)) = some (some (.bool false), 1, 1) := by kernel_rfl
def cellsT (l : List Tok) : List Value := l.flatMap Tok.cells
theorem cellsT_app (l m : List Tok) : cellsT (l ++ m) = cellsT l ++ cellsT m := by simp [cellsT]
abbrev OwnT (w : World) (base : Nat) (v : Value) (l : List Tok) : Prop := w.ownsRow base 32 6 v l.length (cellsT l)
abbrev OwnB (w : World) (base : Nat) (v : Value) (l : List Bool) : Prop := w.ownsRow base 4 1 v l.length (l.map Value.bool)
/-- a row stands beside another one that has grown -/
theorem own_beside {w w' : World} {base b2 : Nat} {e e2 : TypeId} {size s2 : Nat} {v v2 : Value} {n n2 : Nat} {xs x2 : List Value} (h : w.ownsRow base e size v n xs) (h2 : w.ownsRow b2 e2 s2 v2 n2 x2) (hne : e ≠ e2) (k : w.grownBy w' v2.ownBlock) : w'.ownsRow base e size v n xs := by
  obtain ⟨a1, a2⟩ := h
  refine ⟨a1, ?_⟩
  rcases a2 with a2 | ⟨g, cap, cur, e1, e3, e4, e5⟩
  · exact .inl a2
  · refine .inr ⟨g, cap, cur, e1, e3, ?_, e5⟩
    rw [k.block _ (Array.getElem?_eq_some_iff.1 e4).1 ?_]; exact e4
    intro he
    rcases h2.2 with ⟨rfl, _⟩ | ⟨g2, cap2, cur2, rfl, _, f4, _⟩
    · cases he
    · simp [Value.ownBlock] at he
      subst he
      rw [e4] at f4; injection f4 with f4; injection f4 with _ f5 _; exact hne f5
theorem own_set {w : World} {base : Nat} {e : TypeId} {size : Nat} {v : Value} {n : Nat} {xs : List Value} (h : w.ownsRow base e size v n xs) {g : Nat} (hg : some g ≠ v.ownBlock) (j : Nat) (u : Value) : (w.setCell ⟨g, j, none⟩ u).ownsRow base e size v n xs := by
  obtain ⟨a1, a2⟩ := h
  refine ⟨a1, ?_⟩
  rcases a2 with a2 | ⟨b, cap, cur, rfl, e3, e4, e5⟩
  · exact .inl a2
  · refine .inr ⟨b, cap, cur, rfl, e3, ?_, e5⟩
    have : g ≠ b := fun e => hg (by rw [e]; rfl)
    simp [World.setCell, Array.getElem?_modify, this, e4]
theorem own_but {w w' : World} {P base : Nat} {e : TypeId} {size : Nat} {v : Value} {n : Nat} {xs : List Value} (h : w.ownsRow base e size v n xs) (k : But P w w') (hP : P < base) : w'.ownsRow base e size v n xs := by
  obtain ⟨a1, a2⟩ := h
  refine ⟨a1, ?_⟩
  rcases a2 with a2 | ⟨g, cap, cur, e1, e3, e4, e5⟩
  · exact .inl a2
  · refine .inr ⟨g, cap, cur, e1, e3, ?_, e5⟩
    rw [k.block _ (Array.getElem?_eq_some_iff.1 e4).1 (fun e => by injection e with e; omega)]; exact e4
theorem own_ge {w : World} {base : Nat} {e : TypeId} {size : Nat} {v : Value} {n : Nat} {xs : List Value} (h : w.ownsRow base e size v n xs) {i : Nat} (hi : v.ownBlock = some i) : base ≤ i ∧ i < w.heap.size ∧ ∃ cur, w.heap[i]? = some (.cells cur e (0, 0)) := by
  rcases h.2 with ⟨rfl, _⟩ | ⟨g, cap, cur, rfl, e3, e4, _⟩
  · cases hi
  · simp [Value.ownBlock] at hi
    subst hi
    exact ⟨e3, (Array.getElem?_eq_some_iff.1 e4).1, cur, e4⟩
theorem Sc.grown {w w' : World} {P M : Nat} {s : ByteArray} {at_ en : Nat} {tm : Bool} {tv bv ov : Value} {r : Option Nat} (h : Sc w P M s at_ en tm tv bv ov) (k : w.grownBy w' r) (h1 : r ≠ some P) (h2 : r ≠ some M) : Sc w' P M s at_ en tm tv bv ov :=
  ⟨by rw [k.block _ h.lt.1 (fun e => h1 e.symm)]; exact h.blk, by rw [k.block _ h.lt.2 (fun e => h2 e.symm)]; exact h.mp, h.ne⟩
variable {w : World} {P M : Nat} {s : ByteArray} {at_ en b : Nat} {tm : Bool} {tv bv ov : Value}
/-- what the scanner has read -/
structure Got (w : World) (base : Nat) (tv bv : Value) (toks : List Tok) (terms : List Bool) : Prop where
  tokR : OwnT w base tv toks
  termR : OwnB w base bv terms
/-- the blocks below base stand but P -/
structure Fr (P base : Nat) (w w' : World) : Prop where
  os : w'.os = w.os
  tape : w'.tape = w.tape
  output : w'.output = w.output
  size : w.heap.size ≤ w'.heap.size
  block : ∀ k, k < base → k ≠ P → w'.heap[k]? = w.heap[k]?
theorem Fr.refl (P base : Nat) (w : World) : Fr P base w w := ⟨rfl, rfl, rfl, Nat.le_refl _, fun _ _ _ => rfl⟩
theorem Fr.but {base : Nat} {a w w' : World} (h : Fr P base a w) (k : But P w w') (hb : base ≤ w.heap.size) : Fr P base a w' :=
  ⟨k.os.trans h.os, k.tape.trans h.tape, k.output.trans h.output, Nat.le_trans h.size k.size, fun i h1 h2 => (k.block i (by omega) (fun e => h2 (by injection e))).trans (h.block i h1 h2)⟩
theorem Fr.grow {base : Nat} {a w w' : World} {r : Option Nat} (h : Fr P base a w) (k : w.grownBy w' r) (hb : base ≤ w.heap.size) (hr : ∀ i, r = some i → base ≤ i) : Fr P base a w' :=
  ⟨k.os.trans h.os, k.tape.trans h.tape, k.output.trans h.output, Nat.le_trans h.size k.size, fun i h1 h2 => (k.block i (by omega) (fun e => by have h3 := hr i e.symm; omega)).trans (h.block i h1 h2)⟩
theorem own_apart {w : World} {base : Nat} {e : TypeId} {size : Nat} {v : Value} {n : Nat} {xs : List Value} (h : w.ownsRow base e size v n xs) {i : Nat} (hi : i < base ∨ w.heap.size ≤ i) : v.ownBlock ≠ some i := fun e => by
  have := own_ge h e; omega
/-- the tokens' row has grown, and the scanner has it -/
theorem read5 {w X w' : World} {P M g base : Nat} {s : ByteArray} {a en : Nat} {tm : Bool} {tv bv ov v' : Value} {n n2 : Nat} {xs ys zs : List Value} {o : Obj} {gc : Array Value} (SX : Sc X P M s a en tm tv bv ov) (hPb : P < base) (hMb : M < base) (hbw : base ≤ w.heap.size) (BX : But P w X)
    (ow : w.ownsRow base 32 6 tv n xs) (OB : w.ownsRow base 4 1 bv n2 ys) (hg : w.heap.size ≤ g) (K : X.heap[g]? = some (.cells gc 32 (0, 0)))
    (h1 : w'.ownsRow base 32 6 v' (n + 1) zs) (h2 : (X.drew.alloc o).grownBy w' tv.ownBlock) :
    Sc (w'.setCell ⟨P, 4, none⟩ v') P M s a en tm v' bv ov ∧ (w'.setCell ⟨P, 4, none⟩ v').ownsRow base 32 6 v' (n + 1) zs ∧ (w'.setCell ⟨P, 4, none⟩ v').ownsRow base 4 1 bv n2 ys ∧ (w'.setCell ⟨P, 4, none⟩ v').heap[g]? = some (.cells gc 32 (0, 0)) ∧ Fr P base w (w'.setCell ⟨P, 4, none⟩ v') ∧ g < (w'.setCell ⟨P, 4, none⟩ v').heap.size := by
  have GX : Gr X (X.drew.alloc o) := ((Gr.refl X).drew).alloc o
  have hP1 : tv.ownBlock ≠ some P := own_apart ow (.inl hPb)
  have hM1 : tv.ownBlock ≠ some M := own_apart ow (.inl hMb)
  have hP2 : some P ≠ v'.ownBlock := fun e => own_apart h1 (.inl hPb) e.symm
  have S1 := (SX.gr GX).grown h2 hP1 hM1
  have ob1 := own_beside (ownsRow_gr (own_but OB BX hPb) GX) (ownsRow_gr (own_but ow BX hPb) GX) (by decide) h2
  have ob2 : some P ≠ bv.ownBlock := fun e => own_apart OB (.inl hPb) e.symm
  have kg : w'.heap[g]? = some (.cells gc 32 (0, 0)) := by
    rw [h2.block _ (Nat.lt_of_lt_of_le (Array.getElem?_eq_some_iff.1 K).1 GX.size) (fun e => own_apart ow (.inr hg) e.symm), GX.block _ (Array.getElem?_eq_some_iff.1 K).1]; exact K
  have hgP : P ≠ g := by omega
  have fr := Fr.but (Fr.grow (Fr.but (Fr.but (Fr.refl P base w) BX hbw) (But.of_gr GX) (Nat.le_trans hbw BX.size)) h2 (Nat.le_trans hbw (Nat.le_trans BX.size GX.size)) (fun i e => (own_ge ow e).1)) (But.set (P := P) 4 v') (Nat.le_trans hbw (Nat.le_trans BX.size (Nat.le_trans GX.size h2.size)))
  exact ⟨S1.setTv v', own_set h1 hP2 4 v', own_set ob1 ob2 4 v', by simp [World.setCell, Array.getElem?_modify, hgP, kg], fr, by simpa [World.setCell] using (Array.getElem?_eq_some_iff.1 kg).1⟩
/-- the row of what was expected has grown, and the scanner has it -/
theorem read6 {w X w' : World} {P M g base : Nat} {s : ByteArray} {a en : Nat} {tm : Bool} {tv bv ov v' : Value} {n n2 : Nat} {xs ys zs : List Value} {o : Obj} {gc : Array Value} (SX : Sc X P M s a en tm tv bv ov) (hPb : P < base) (hMb : M < base) (hbw : base ≤ w.heap.size) (FX : Fr P base w X)
    (OT : X.ownsRow base 32 6 tv n xs) (OB : X.ownsRow base 4 1 bv n2 ys) (K : X.heap[g]? = some (.cells gc 32 (0, 0))) (hgP : P ≠ g)
    (h1 : w'.ownsRow base 4 1 v' (n2 + 1) zs) (h2 : (X.drew.alloc o).grownBy w' bv.ownBlock) :
    Sc (w'.setCell ⟨P, 5, none⟩ v') P M s a en tm tv v' ov ∧ (w'.setCell ⟨P, 5, none⟩ v').ownsRow base 32 6 tv n xs ∧ (w'.setCell ⟨P, 5, none⟩ v').ownsRow base 4 1 v' (n2 + 1) zs ∧ (w'.setCell ⟨P, 5, none⟩ v').heap[g]? = some (.cells gc 32 (0, 0)) ∧ Fr P base w (w'.setCell ⟨P, 5, none⟩ v') ∧ g < (w'.setCell ⟨P, 5, none⟩ v').heap.size := by
  have GX : Gr X (X.drew.alloc o) := ((Gr.refl X).drew).alloc o
  have hbX : base ≤ X.heap.size := Nat.le_trans hbw FX.size
  have hP1 : bv.ownBlock ≠ some P := own_apart OB (.inl hPb)
  have hM1 : bv.ownBlock ≠ some M := own_apart OB (.inl hMb)
  have hP2 : some P ≠ v'.ownBlock := fun e => own_apart h1 (.inl hPb) e.symm
  have S1 := (SX.gr GX).grown h2 hP1 hM1
  have ot1 := own_beside (ownsRow_gr OT GX) (ownsRow_gr OB GX) (by decide) h2
  have ot2 : some P ≠ tv.ownBlock := fun e => own_apart OT (.inl hPb) e.symm
  have hgo : some g ≠ bv.ownBlock := fun e => by
    obtain ⟨_, _, cur, hc⟩ := own_ge OB e.symm
    rw [K] at hc; injection hc with hc; injection hc with _ hc _; exact absurd hc (by decide)
  have kg : w'.heap[g]? = some (.cells gc 32 (0, 0)) := by
    rw [h2.block _ (Nat.lt_of_lt_of_le (Array.getElem?_eq_some_iff.1 K).1 GX.size) hgo, GX.block _ (Array.getElem?_eq_some_iff.1 K).1]; exact K
  have fr := Fr.but (Fr.grow (Fr.but FX (But.of_gr GX) hbX) h2 (Nat.le_trans hbX GX.size) (fun i e => (own_ge OB e).1)) (But.set (P := P) 5 v') (Nat.le_trans hbX (Nat.le_trans GX.size h2.size))
  exact ⟨S1.setBv v', own_set ot1 ot2 5 v', own_set h1 hP2 5 v', by simp [World.setCell, Array.getElem?_modify, hgP, kg], fr, by simpa [World.setCell] using (Array.getElem?_eq_some_iff.1 kg).1⟩
/-- the scanner keeps what is expected -/
theorem read7 {w X w' : World} {P M base : Nat} {s : ByteArray} {a en : Nat} {tm t2 : Bool} {tv bv ov : Value} {n n2 : Nat} {xs ys : List Value} (SX : Sc X P M s a en tm tv bv ov) (hPb : P < base) (hbw : base ≤ w.heap.size) (FX : Fr P base w X)
    (OT : X.ownsRow base 32 6 tv n xs) (OB : X.ownsRow base 4 1 bv n2 ys) (G : Gr X.drew w') :
    Sc (w'.setCell ⟨P, 3, none⟩ (.bool t2)) P M s a en t2 tv bv ov ∧ (w'.setCell ⟨P, 3, none⟩ (.bool t2)).ownsRow base 32 6 tv n xs ∧ (w'.setCell ⟨P, 3, none⟩ (.bool t2)).ownsRow base 4 1 bv n2 ys ∧ Fr P base w (w'.setCell ⟨P, 3, none⟩ (.bool t2)) := by
  have GX : Gr X w' := ((Gr.refl X).drew).trans G
  have hbX : base ≤ X.heap.size := Nat.le_trans hbw FX.size
  have hP1 : some P ≠ tv.ownBlock := fun e => own_apart OT (.inl hPb) e.symm
  have hP2 : some P ≠ bv.ownBlock := fun e => own_apart OB (.inl hPb) e.symm
  have fr := Fr.but (Fr.but FX (But.of_gr GX) hbX) (But.set (P := P) 3 (.bool t2)) (Nat.le_trans hbX GX.size)
  exact ⟨(SX.gr GX).setTm t2, own_set (ownsRow_gr OT GX) hP1 3 _, own_set (ownsRow_gr OB GX) hP2 3 _, fr⟩
/-- the scanner keeps where the last token ended -/
theorem read8 {w X : World} {P M base : Nat} {s : ByteArray} {b en : Nat} {tm : Bool} {tv bv ov : Value} {toks : List Tok} {terms : List Bool} {tk : Tok} {t0 : Bool} (SX : Sc X P M s b en tm tv bv ov) (hPb : P < base) (hbw : base ≤ w.heap.size) (FX : Fr P base w X)
    (OT : X.ownsRow base 32 6 tv (toks.length + 1) (cellsT toks ++ tk.cells)) (OB : X.ownsRow base 4 1 bv (terms.length + 1) (terms.map Value.bool ++ [.bool t0])) :
    Sc (X.setCell ⟨P, 2, none⟩ (.int .i64 b)) P M s b b tm tv bv ov ∧ Got (X.setCell ⟨P, 2, none⟩ (.int .i64 b)) base tv bv (toks ++ [tk]) (terms ++ [t0]) ∧ Fr P base w (X.setCell ⟨P, 2, none⟩ (.int .i64 b)) := by
  have hbX : base ≤ X.heap.size := Nat.le_trans hbw FX.size
  have hP1 : some P ≠ tv.ownBlock := fun e => own_apart OT (.inl hPb) e.symm
  have hP2 : some P ≠ bv.ownBlock := fun e => own_apart OB (.inl hPb) e.symm
  refine ⟨SX.setEn b, ⟨?_, ?_⟩, Fr.but FX (But.set (P := P) 2 (.int .i64 b)) hbX⟩
  · have := own_set OT hP1 2 (.int .i64 b)
    simpa [OwnT, cellsT] using this
  · have := own_set OB hP2 2 (.int .i64 b)
    simpa [OwnB] using this
/-- the scanner reads the token, from whatever world -/
def Token (P M : Nat) (s : ByteArray) (a b en : Nat) (tm : Bool) (tv bv ov : Value) (tk : Tok) : Prop := Reads 54 P M s a b en tm tv bv ov tk
set_option maxRecDepth 100000 in
set_option maxHeartbeats 4000000 in
theorem read_p {base : Nat} {toks : List Tok} {terms : List Bool} {k : Int} {tx rp mo : ByteArray} (h : Sc w P M s at_ en tm tv bv ov) (hG : Got w base tv bv toks terms) (hPb : P < base) (hMb : M < base) (hbw : base ≤ w.heap.size)
    (hT : Token P M s at_ b en tm tv bv ov ⟨k, 0, tx, rp, mo, 0⟩) (h1 : k = 3 → tx.data.toList ≠ [123]) (h2 : k = 3 → tx.data.toList ≠ [125]) (hn : toks.length ≤ 4000 ∧ terms.length ≤ 4000) :
    Calls Tryd.prog 45 #[.pointer (some ⟨P, 0, none⟩)] w fun e w' => ∃ tv' bv', e = .returned (.tuple #[]) ∧ Sc w' P M s b b (behindB k tx.data.toList 0 tm) tv' bv' ov ∧ Got w' base tv' bv' (toks ++ [⟨k, at_, tx, rp, mo, 0⟩]) (terms ++ [tm]) ∧ Fr P base w w' := by
  have H := Lib.hid h
  have HT := Lib.hid hT
  unfold Token Reads at HT
  rw [show Tok.val ⟨k, 0, tx, rp, mo, 0⟩ = .agg #[.int .i64 k, .int .i64 0, .string tx, .string rp, .string mo, .int .i64 0] from rfl] at HT
  have HB := Lib.hid (fun (hk : k = 3) d w => brace_no (P := P) tx d (h1 hk) (h2 hk) w)
  have HH := Lib.hid (fun w => behind_p k (at_ : Int) tx rp mo 0 tm w)
  have Ow := Lib.hid hG
  obtain ⟨c0, c1, c2, c3, c4, c5, c6, c7, cf⟩ := h.cells
  clear h hT h1 h2 hG
  go_enter Tryd.func45, Tryd.ntmps45
  go_wp2_with fail
  go_quiet (fail)
  clear c0 c1 c2 c3 c4 c5 c6 c7 cf
  go_wp2_with fail
  refine (HT.out _ (H.out.gr ((Gr.refl w).drewN _))).mono ?_
  rintro e w2 ⟨rfl, hS2, hb2⟩
  have S2 := Lib.hid hS2
  have B2 := Lib.hid ((But.of_gr (P := P) ((Gr.refl w).drewN nq)).trans hb2)
  clear hS2 hb2 HT
  by_cases hk3 : k = 3
  · subst hk3
    have HB3 := Lib.hid (HB.out rfl)
    clear HB
    go_wp2_with fail
    refine (HB3.out _ _).mono ?_
    rintro e w3 ⟨rfl, rfl⟩
    go_wp2_with fail
    generalize hX : w2.alloc (.cells #[.int .i64 3, .int .i64 (at_ : Int), .string tx, .string rp, .string mo, .int .i64 0] 32) = X
    have GX : Gr w2 X := by rw [← hX]; exact (Gr.refl w2).alloc _
    have SX := Lib.hid (S2.out.gr GX)
    have BX := Lib.hid (B2.out.trans (But.of_gr GX))
    have KX : Hid (X.heap[w2.heap.size]? = some (.cells #[.int .i64 3, .int .i64 (at_ : Int), .string tx, .string rp, .string mo, .int .i64 0] 32 (0, 0))) := Lib.hid (by rw [← hX]; exact heap_alloc_new w2 _)
    have hgB : w.heap.size ≤ w2.heap.size := B2.out.size
    clear hX GX S2 B2
    obtain ⟨kc, kf⟩ := cellsOf KX.out
    have t0 := kc 0
    have t1 := kc 1
    have t2 := kc 2
    have t3 := kc 3
    have t4 := kc 4
    have t5 := kc 5
    simp at t0 t1 t2 t3 t4 t5
    clear kc
    obtain ⟨c0, c1, c2, c3, c4, c5, c6, c7, cf⟩ := SX.out.cells
    obtain ⟨_, _, _, b3, b4, b5, _, _, _⟩ := (SX.out.gr ((Gr.refl X).alloc (.cells #[.int .i64 3, .int .i64 (at_ : Int), .string tx, .string rp, .string mo, .int .i64 0] 32))).cells
    have OT := Lib.hid (own_but Ow.out.tokR BX.out hPb)
    have OB := Lib.hid (own_but Ow.out.termR BX.out hPb)
    have hXs := Lib.hid BX.out.size
    obtain ⟨ti, hti, htz, hts, htb⟩ := info_parts infoTok
    obtain ⟨bi, hbi, hbz, hbs, hbb⟩ := info_parts infoBool
    go_cut [] from 31 (fun wx => ∃ tv', Sc wx P M s b en tm tv' bv ov ∧ wx.ownsRow base 32 6 tv' (toks.length + 1) (cellsT toks ++ #[.int .i64 3, .int .i64 (at_ : Int), .string tx, .string rp, .string mo, .int .i64 0].toList) ∧ OwnB wx base bv terms ∧ wx.heap[w2.heap.size]? = some (.cells #[.int .i64 3, .int .i64 (at_ : Int), .string tx, .string rp, .string mo, .int .i64 0] 32 (0, 0)) ∧ Fr P base w wx ∧ w2.heap.size < wx.heap.size)
    case first =>
      go_region_law (refine step_of rfl (wp_append_own _ (.tmp 35) (.tmp 37) 24 rfl base 32 ti (.agg #[.int .i64 0, .int .i64 0, .string ⟨#[]⟩, .string ⟨#[]⟩, .string ⟨#[]⟩, .int .i64 0]) 6 72 Tryd.underlying24 hti htz hts htb rfl (by decide) _ _ _ rfl (ownsRow_gr OT.out (((Gr.refl X).drew).alloc _)) ⟨X.heap.size, 0, none⟩ 1 1 #[.int .i64 3, .int .i64 (at_ : Int), .string tx, .string rp, .string mo, .int .i64 0].toList rfl rfl (fun j u hj => newCellsAt (by simp) hj) (by simp [Value.oneCell']) (by unfold maxLen; omega) (by omega) (by have := hXs.out; simp; omega) fun v' w' h1 h2 _ => ?_); obtain ⟨ao, cap, rfl⟩ := ownsRow_shape h1; have HR5 := Lib.hid (read5 SX.out hPb hMb hbw BX.out Ow.out.tokR Ow.out.termR hgB KX.out h1 h2); obtain ⟨_, _, _, _, d4, _, _, _, df⟩ := ((SX.out.gr (((Gr.refl X).drew).alloc _)).grown h2 (own_apart Ow.out.tokR (.inl hPb)) (own_apart Ow.out.tokR (.inl hMb))).cells; clear h1 h2)
      all_goals
        go_wp2_with fail
        go_meet
        obtain ⟨a1, a2, a3, a4, a5, a6⟩ := HR5.out
        exact ⟨_, a1, a2, a3, a4, a5, a6⟩
    case rest =>
    obtain ⟨tv', d1, d2, d3, d4, d5, d6⟩ := hcut
    have SW := Lib.hid d1
    have TW := Lib.hid d2
    have BW := Lib.hid d3
    have KW := Lib.hid d4
    have FW := Lib.hid d5
    have ZW := Lib.hid d6
    clear d1 d2 d3 d4 d5 d6 KX SX BX OT OB t0 t1 t2 t3 t4 t5 kf c0 c1 c2 c3 c4 c5 c6 c7 cf b3 b4 b5 hXs
    obtain ⟨c0, c1, c2, c3, c4, c5, c6, c7, cf⟩ := SW.out.cells
    obtain ⟨_, _, _, b3, b4, b5, _, _, _⟩ := (SW.out.gr ((Gr.refl wc).alloc (.cells #[.bool tm] 4))).cells
    have hwcs := Lib.hid FW.out.size
    go_wp2_with fail
    go_cut [] from 41 (fun wx => ∃ bv', Sc wx P M s b en tm tv' bv' ov ∧ wx.ownsRow base 32 6 tv' (toks.length + 1) (cellsT toks ++ #[.int .i64 3, .int .i64 (at_ : Int), .string tx, .string rp, .string mo, .int .i64 0].toList) ∧ wx.ownsRow base 4 1 bv' (terms.length + 1) (terms.map Value.bool ++ [.bool tm]) ∧ wx.heap[w2.heap.size]? = some (.cells #[.int .i64 3, .int .i64 (at_ : Int), .string tx, .string rp, .string mo, .int .i64 0] 32 (0, 0)) ∧ Fr P base w wx ∧ w2.heap.size < wx.heap.size)
    case first =>
      go_region_law (refine step_of rfl (wp_append_own _ (.tmp 45) (.tmp 50) 43 rfl base 4 bi (.bool false) 1 1 Tryd.underlying43 hbi hbz hbs hbb rfl (by decide) _ _ _ rfl (ownsRow_gr BW.out (((Gr.refl wc).drew).alloc _)) ⟨wc.heap.size, 0, none⟩ 1 1 [.bool tm] rfl rfl (fun j u hj => newCellsAt (by simp) hj) (by simp [Value.oneCell']) (by unfold maxLen; omega) (by omega) (by have := hwcs.out; simp; omega) fun v' w' h1 h2 _ => ?_); obtain ⟨ao, cap, rfl⟩ := ownsRow_shape h1; have HR6 := Lib.hid (read6 SW.out hPb hMb hbw FW.out TW.out BW.out KW.out (by omega) h1 h2); obtain ⟨_, _, _, _, _, d5, _, _, df⟩ := ((SW.out.gr (((Gr.refl wc).drew).alloc _)).grown h2 (own_apart BW.out (.inl hPb)) (own_apart BW.out (.inl hMb))).cells; clear h1 h2)
      all_goals
        go_wp2_with fail
        go_meet
        obtain ⟨a1, a2, a3, a4, a5, a6⟩ := HR6.out
        exact ⟨_, a1, a2, a3, a4, a5, a6⟩
    case rest =>
    obtain ⟨bv', d1, d2, d3, d4, d5, d6⟩ := hcut
    clear SW TW BW KW FW ZW c0 c1 c2 c3 c4 c5 c6 c7 cf b3 b4 b5 hwcs
    have SW := Lib.hid d1
    have TW := Lib.hid d2
    have BW := Lib.hid d3
    have KW := Lib.hid d4
    have FW := Lib.hid d5
    clear d1 d2 d3 d4 d5 d6
    obtain ⟨c0, c1, c2, c3, c4, c5, c6, c7, cf⟩ := SW.out.cells
    obtain ⟨kc, _⟩ := cellsOf KW.out
    have t0 := kc 0
    have t1 := kc 1
    have t2 := kc 2
    have t3 := kc 3
    have t4 := kc 4
    have t5 := kc 5
    simp at t0 t1 t2 t3 t4 t5
    clear kc
    go_wp2_with fail
    go_cut [] from 51 (fun wx => Sc wx P M s b en (behindB 3 tx.data.toList 0 tm) tv' bv' ov ∧ wx.ownsRow base 32 6 tv' (toks.length + 1) (cellsT toks ++ #[.int .i64 3, .int .i64 (at_ : Int), .string tx, .string rp, .string mo, .int .i64 0].toList) ∧ wx.ownsRow base 4 1 bv' (terms.length + 1) (terms.map Value.bool ++ [.bool tm]) ∧ Fr P base w wx)
    case first =>
      go_region_with (go_at_call 39; refine (HH.out _).mono ?_; rintro e9 w9 ⟨rfl, g9⟩; have G9 := Lib.hid g9; clear g9; have S9 := Lib.hid ((SW.out.gr ((Gr.refl _).drew)).gr G9.out); obtain ⟨_, _, _, d3, _, _, _, _, df⟩ := S9.out.cells)
      all_goals
        go_wp2_with fail
        go_meet
        exact read7 SW.out hPb hbw FW.out TW.out BW.out G9.out
    case rest =>
    clear SW TW BW KW FW c0 c1 c2 c3 c4 c5 c6 c7 cf t0 t1 t2 t3 t4 t5
    obtain ⟨d1, d2, d3, d4⟩ := hcut
    have SW := Lib.hid d1
    have TW := Lib.hid d2
    have BW := Lib.hid d3
    have FW := Lib.hid d4
    clear d1 d2 d3 d4
    obtain ⟨c0, c1, c2, c3, c4, c5, c6, c7, cf⟩ := SW.out.cells
    go_wp2_with fail
    go_end0
    obtain ⟨d1, d2, d3⟩ := read8 (tk := ⟨3, at_, tx, rp, mo, 0⟩) SW.out hPb hbw FW.out TW.out BW.out
    exact ⟨rfl, _, _, d1, d2, d3⟩
  · have hkb : (k == 3) = false := by simpa using hk3
    go_wp2_with fail
    generalize hX : w2.alloc (.cells #[.int .i64 k, .int .i64 (at_ : Int), .string tx, .string rp, .string mo, .int .i64 0] 32) = X
    have GX : Gr w2 X := by rw [← hX]; exact (Gr.refl w2).alloc _
    have SX := Lib.hid (S2.out.gr GX)
    have BX := Lib.hid (B2.out.trans (But.of_gr GX))
    have KX : Hid (X.heap[w2.heap.size]? = some (.cells #[.int .i64 k, .int .i64 (at_ : Int), .string tx, .string rp, .string mo, .int .i64 0] 32 (0, 0))) := Lib.hid (by rw [← hX]; exact heap_alloc_new w2 _)
    have hgB : w.heap.size ≤ w2.heap.size := B2.out.size
    clear hX GX S2 B2
    obtain ⟨kc, kf⟩ := cellsOf KX.out
    have t0 := kc 0
    have t1 := kc 1
    have t2 := kc 2
    have t3 := kc 3
    have t4 := kc 4
    have t5 := kc 5
    simp at t0 t1 t2 t3 t4 t5
    clear kc
    obtain ⟨c0, c1, c2, c3, c4, c5, c6, c7, cf⟩ := SX.out.cells
    obtain ⟨_, _, _, b3, b4, b5, _, _, _⟩ := (SX.out.gr ((Gr.refl X).alloc (.cells #[.int .i64 k, .int .i64 (at_ : Int), .string tx, .string rp, .string mo, .int .i64 0] 32))).cells
    have OT := Lib.hid (own_but Ow.out.tokR BX.out hPb)
    have OB := Lib.hid (own_but Ow.out.termR BX.out hPb)
    have hXs := Lib.hid BX.out.size
    obtain ⟨ti, hti, htz, hts, htb⟩ := info_parts infoTok
    obtain ⟨bi, hbi, hbz, hbs, hbb⟩ := info_parts infoBool
    go_cut [] from 31 (fun wx => ∃ tv', Sc wx P M s b en tm tv' bv ov ∧ wx.ownsRow base 32 6 tv' (toks.length + 1) (cellsT toks ++ #[.int .i64 k, .int .i64 (at_ : Int), .string tx, .string rp, .string mo, .int .i64 0].toList) ∧ OwnB wx base bv terms ∧ wx.heap[w2.heap.size]? = some (.cells #[.int .i64 k, .int .i64 (at_ : Int), .string tx, .string rp, .string mo, .int .i64 0] 32 (0, 0)) ∧ Fr P base w wx ∧ w2.heap.size < wx.heap.size)
    case first =>
      go_region_law (refine step_of rfl (wp_append_own _ (.tmp 35) (.tmp 37) 24 rfl base 32 ti (.agg #[.int .i64 0, .int .i64 0, .string ⟨#[]⟩, .string ⟨#[]⟩, .string ⟨#[]⟩, .int .i64 0]) 6 72 Tryd.underlying24 hti htz hts htb rfl (by decide) _ _ _ rfl (ownsRow_gr OT.out (((Gr.refl X).drew).alloc _)) ⟨X.heap.size, 0, none⟩ 1 1 #[.int .i64 k, .int .i64 (at_ : Int), .string tx, .string rp, .string mo, .int .i64 0].toList rfl rfl (fun j u hj => newCellsAt (by simp) hj) (by simp [Value.oneCell']) (by unfold maxLen; omega) (by omega) (by have := hXs.out; simp; omega) fun v' w' h1 h2 _ => ?_); obtain ⟨ao, cap, rfl⟩ := ownsRow_shape h1; have HR5 := Lib.hid (read5 SX.out hPb hMb hbw BX.out Ow.out.tokR Ow.out.termR hgB KX.out h1 h2); obtain ⟨_, _, _, _, d4, _, _, _, df⟩ := ((SX.out.gr (((Gr.refl X).drew).alloc _)).grown h2 (own_apart Ow.out.tokR (.inl hPb)) (own_apart Ow.out.tokR (.inl hMb))).cells; clear h1 h2)
      all_goals
        go_wp2_with fail
        go_meet
        obtain ⟨a1, a2, a3, a4, a5, a6⟩ := HR5.out
        exact ⟨_, a1, a2, a3, a4, a5, a6⟩
    case rest =>
    obtain ⟨tv', d1, d2, d3, d4, d5, d6⟩ := hcut
    have SW := Lib.hid d1
    have TW := Lib.hid d2
    have BW := Lib.hid d3
    have KW := Lib.hid d4
    have FW := Lib.hid d5
    have ZW := Lib.hid d6
    clear d1 d2 d3 d4 d5 d6 KX SX BX OT OB t0 t1 t2 t3 t4 t5 kf c0 c1 c2 c3 c4 c5 c6 c7 cf b3 b4 b5 hXs
    obtain ⟨c0, c1, c2, c3, c4, c5, c6, c7, cf⟩ := SW.out.cells
    obtain ⟨_, _, _, b3, b4, b5, _, _, _⟩ := (SW.out.gr ((Gr.refl wc).alloc (.cells #[.bool tm] 4))).cells
    have hwcs := Lib.hid FW.out.size
    go_wp2_with fail
    go_cut [] from 41 (fun wx => ∃ bv', Sc wx P M s b en tm tv' bv' ov ∧ wx.ownsRow base 32 6 tv' (toks.length + 1) (cellsT toks ++ #[.int .i64 k, .int .i64 (at_ : Int), .string tx, .string rp, .string mo, .int .i64 0].toList) ∧ wx.ownsRow base 4 1 bv' (terms.length + 1) (terms.map Value.bool ++ [.bool tm]) ∧ wx.heap[w2.heap.size]? = some (.cells #[.int .i64 k, .int .i64 (at_ : Int), .string tx, .string rp, .string mo, .int .i64 0] 32 (0, 0)) ∧ Fr P base w wx ∧ w2.heap.size < wx.heap.size)
    case first =>
      go_region_law (refine step_of rfl (wp_append_own _ (.tmp 45) (.tmp 50) 43 rfl base 4 bi (.bool false) 1 1 Tryd.underlying43 hbi hbz hbs hbb rfl (by decide) _ _ _ rfl (ownsRow_gr BW.out (((Gr.refl wc).drew).alloc _)) ⟨wc.heap.size, 0, none⟩ 1 1 [.bool tm] rfl rfl (fun j u hj => newCellsAt (by simp) hj) (by simp [Value.oneCell']) (by unfold maxLen; omega) (by omega) (by have := hwcs.out; simp; omega) fun v' w' h1 h2 _ => ?_); obtain ⟨ao, cap, rfl⟩ := ownsRow_shape h1; have HR6 := Lib.hid (read6 SW.out hPb hMb hbw FW.out TW.out BW.out KW.out (by omega) h1 h2); obtain ⟨_, _, _, _, _, d5, _, _, df⟩ := ((SW.out.gr (((Gr.refl wc).drew).alloc _)).grown h2 (own_apart BW.out (.inl hPb)) (own_apart BW.out (.inl hMb))).cells; clear h1 h2)
      all_goals
        go_wp2_with fail
        go_meet
        obtain ⟨a1, a2, a3, a4, a5, a6⟩ := HR6.out
        exact ⟨_, a1, a2, a3, a4, a5, a6⟩
    case rest =>
    obtain ⟨bv', d1, d2, d3, d4, d5, d6⟩ := hcut
    clear SW TW BW KW FW ZW c0 c1 c2 c3 c4 c5 c6 c7 cf b3 b4 b5 hwcs
    have SW := Lib.hid d1
    have TW := Lib.hid d2
    have BW := Lib.hid d3
    have KW := Lib.hid d4
    have FW := Lib.hid d5
    clear d1 d2 d3 d4 d5 d6
    obtain ⟨c0, c1, c2, c3, c4, c5, c6, c7, cf⟩ := SW.out.cells
    obtain ⟨kc, _⟩ := cellsOf KW.out
    have t0 := kc 0
    have t1 := kc 1
    have t2 := kc 2
    have t3 := kc 3
    have t4 := kc 4
    have t5 := kc 5
    simp at t0 t1 t2 t3 t4 t5
    clear kc
    go_wp2_with fail
    go_cut [] from 51 (fun wx => Sc wx P M s b en (behindB k tx.data.toList 0 tm) tv' bv' ov ∧ wx.ownsRow base 32 6 tv' (toks.length + 1) (cellsT toks ++ #[.int .i64 k, .int .i64 (at_ : Int), .string tx, .string rp, .string mo, .int .i64 0].toList) ∧ wx.ownsRow base 4 1 bv' (terms.length + 1) (terms.map Value.bool ++ [.bool tm]) ∧ Fr P base w wx)
    case first =>
      go_region_with (go_at_call 39; refine (HH.out _).mono ?_; rintro e9 w9 ⟨rfl, g9⟩; have G9 := Lib.hid g9; clear g9; have S9 := Lib.hid ((SW.out.gr ((Gr.refl _).drew)).gr G9.out); obtain ⟨_, _, _, d3, _, _, _, _, df⟩ := S9.out.cells)
      all_goals
        go_wp2_with fail
        go_meet
        exact read7 SW.out hPb hbw FW.out TW.out BW.out G9.out
    case rest =>
    clear SW TW BW KW FW c0 c1 c2 c3 c4 c5 c6 c7 cf t0 t1 t2 t3 t4 t5
    obtain ⟨d1, d2, d3, d4⟩ := hcut
    have SW := Lib.hid d1
    have TW := Lib.hid d2
    have BW := Lib.hid d3
    have FW := Lib.hid d4
    clear d1 d2 d3 d4
    obtain ⟨c0, c1, c2, c3, c4, c5, c6, c7, cf⟩ := SW.out.cells
    go_wp2_with fail
    go_end0
    obtain ⟨d1, d2, d3⟩ := read8 (tk := ⟨k, at_, tx, rp, mo, 0⟩) SW.out hPb hbw FW.out TW.out BW.out
    exact ⟨rfl, _, _, d1, d2, d3⟩
end Go.Proofs.YtaoehbnjipegoaaDoor
