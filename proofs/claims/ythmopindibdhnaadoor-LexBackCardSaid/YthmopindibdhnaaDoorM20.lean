/- GRead GRdP GRdQ -/
import Derived.Test.YthmopindibdhnaaDoorM19
import Derived.Deep.RegionLaw
import Derived.Deep.Cut
import Derived.Test.YthmopindibdhnaaDoorM18
namespace Go.Proofs.YthmopindibdhnaaDoor.G
open Go.RowKit Go.Shelf Go.Maps
theorem read5g {w X w' : World} {P g base : Nat} {M : GoMap} {s : ByteArray} {a en : Nat} {tm : Bool} {tv bv ov v' : Value} {n n2 n3 : Nat} {xs ys zi zs : List Value} {o : Obj} {gc : Array Value} (SX : Sc X P M s a en tm tv bv ov) (hPb : P < base) (hMb : M.blk < base) (hbX : base ≤ X.heap.size) (FX : Fr P base w X)
    (OT : X.ownsRow base 32 6 tv n xs) (OB : X.ownsRow base 4 1 bv n2 ys) (OI : X.ownsRow base 3 1 ov n3 zi) (hgt : tv.ownBlock ≠ some g) (hgP : P ≠ g) (K : X.heap[g]? = some (.cells gc 32 (0, 0)))
    (h1 : w'.ownsRow base 32 6 v' (n + 1) zs) (h2 : (X.drew.alloc o).grownBy w' tv.ownBlock) :
    Sc (w'.setCell ⟨P, 4, none⟩ v') P M s a en tm v' bv ov ∧ (w'.setCell ⟨P, 4, none⟩ v').ownsRow base 32 6 v' (n + 1) zs ∧ (w'.setCell ⟨P, 4, none⟩ v').ownsRow base 4 1 bv n2 ys ∧ (w'.setCell ⟨P, 4, none⟩ v').ownsRow base 3 1 ov n3 zi ∧ (w'.setCell ⟨P, 4, none⟩ v').heap[g]? = some (.cells gc 32 (0, 0)) ∧ Fr P base w (w'.setCell ⟨P, 4, none⟩ v') := by
  have GX : Gr X (X.drew.alloc o) := ((Gr.refl X).drew).alloc o
  have hP1 : tv.ownBlock ≠ some P := own_apart OT (.inl hPb)
  have hM1 : tv.ownBlock ≠ some M.blk := own_apart OT (.inl hMb)
  have hP2 : some P ≠ v'.ownBlock := fun e => own_apart h1 (.inl hPb) e.symm
  have S1 := (SX.gr GX).grown h2 hP1 hM1
  have ob1 := own_beside (ownsRow_gr OB GX) (ownsRow_gr OT GX) (by decide) h2
  have oi1 := own_beside (ownsRow_gr OI GX) (ownsRow_gr OT GX) (by decide) h2
  have ob2 : some P ≠ bv.ownBlock := fun e => own_apart OB (.inl hPb) e.symm
  have oi2 : some P ≠ ov.ownBlock := fun e => own_apart OI (.inl hPb) e.symm
  have kg : w'.heap[g]? = some (.cells gc 32 (0, 0)) := by
    rw [h2.block _ (Nat.lt_of_lt_of_le (Array.getElem?_eq_some_iff.1 K).1 GX.size) (fun e => hgt e.symm), GX.block _ (Array.getElem?_eq_some_iff.1 K).1]; exact K
  have fr := Fr.but (Fr.grow (Fr.but FX (But.of_gr GX) hbX) h2 (Nat.le_trans hbX GX.size) (fun i e => (own_ge OT e).1)) (But.set (P := P) 4 v') (Nat.le_trans hbX (Nat.le_trans GX.size h2.size))
  exact ⟨S1.setTv v', own_set h1 hP2 4 v', own_set ob1 ob2 4 v', own_set oi1 oi2 4 v', by simp [World.setCell, Array.getElem?_modify, hgP, kg], fr⟩
theorem read6g {w X w' : World} {P g base : Nat} {M : GoMap} {s : ByteArray} {a en : Nat} {tm : Bool} {tv bv ov v' : Value} {n n2 n3 : Nat} {xs ys zi zs : List Value} {o : Obj} {gc : Array Value} (SX : Sc X P M s a en tm tv bv ov) (hPb : P < base) (hMb : M.blk < base) (hbX : base ≤ X.heap.size) (FX : Fr P base w X)
    (OT : X.ownsRow base 32 6 tv n xs) (OB : X.ownsRow base 4 1 bv n2 ys) (OI : X.ownsRow base 3 1 ov n3 zi) (hgP : P ≠ g) (K : X.heap[g]? = some (.cells gc 32 (0, 0)))
    (h1 : w'.ownsRow base 4 1 v' (n2 + 1) zs) (h2 : (X.drew.alloc o).grownBy w' bv.ownBlock) :
    Sc (w'.setCell ⟨P, 5, none⟩ v') P M s a en tm tv v' ov ∧ (w'.setCell ⟨P, 5, none⟩ v').ownsRow base 32 6 tv n xs ∧ (w'.setCell ⟨P, 5, none⟩ v').ownsRow base 4 1 v' (n2 + 1) zs ∧ (w'.setCell ⟨P, 5, none⟩ v').ownsRow base 3 1 ov n3 zi ∧ (w'.setCell ⟨P, 5, none⟩ v').heap[g]? = some (.cells gc 32 (0, 0)) ∧ Fr P base w (w'.setCell ⟨P, 5, none⟩ v') := by
  have GX : Gr X (X.drew.alloc o) := ((Gr.refl X).drew).alloc o
  have hP1 : bv.ownBlock ≠ some P := own_apart OB (.inl hPb)
  have hM1 : bv.ownBlock ≠ some M.blk := own_apart OB (.inl hMb)
  have hP2 : some P ≠ v'.ownBlock := fun e => own_apart h1 (.inl hPb) e.symm
  have S1 := (SX.gr GX).grown h2 hP1 hM1
  have ot1 := own_beside (ownsRow_gr OT GX) (ownsRow_gr OB GX) (by decide) h2
  have oi1 := own_beside (ownsRow_gr OI GX) (ownsRow_gr OB GX) (by decide) h2
  have ot2 : some P ≠ tv.ownBlock := fun e => own_apart OT (.inl hPb) e.symm
  have oi2 : some P ≠ ov.ownBlock := fun e => own_apart OI (.inl hPb) e.symm
  have hgt : bv.ownBlock ≠ some g := own_ty OB K (by decide)
  have kg : w'.heap[g]? = some (.cells gc 32 (0, 0)) := by
    rw [h2.block _ (Nat.lt_of_lt_of_le (Array.getElem?_eq_some_iff.1 K).1 GX.size) (fun e => hgt e.symm), GX.block _ (Array.getElem?_eq_some_iff.1 K).1]; exact K
  have fr := Fr.but (Fr.grow (Fr.but FX (But.of_gr GX) hbX) h2 (Nat.le_trans hbX GX.size) (fun i e => (own_ge OB e).1)) (But.set (P := P) 5 v') (Nat.le_trans hbX (Nat.le_trans GX.size h2.size))
  exact ⟨S1.setBv v', own_set ot1 ot2 5 v', own_set h1 hP2 5 v', own_set oi1 oi2 5 v', by simp [World.setCell, Array.getElem?_modify, hgP, kg], fr⟩
theorem read7g {w X w' : World} {P base j : Nat} {M : GoMap} {s : ByteArray} {a en : Nat} {tm : Bool} {tv bv ov u : Value} {n n2 n3 : Nat} {xs ys zi : List Value} (SX : Sc X P M s a en tm tv bv ov) (hPb : P < base) (hbX : base ≤ X.heap.size) (FX : Fr P base w X)
    (OT : X.ownsRow base 32 6 tv n xs) (OB : X.ownsRow base 4 1 bv n2 ys) (OI : X.ownsRow base 3 1 ov n3 zi) (GX : Gr X w') :
    Sc w' P M s a en tm tv bv ov ∧ (w'.setCell ⟨P, j, none⟩ u).ownsRow base 32 6 tv n xs ∧ (w'.setCell ⟨P, j, none⟩ u).ownsRow base 4 1 bv n2 ys ∧ (w'.setCell ⟨P, j, none⟩ u).ownsRow base 3 1 ov n3 zi ∧ Fr P base w (w'.setCell ⟨P, j, none⟩ u) := by
  have hP1 : some P ≠ tv.ownBlock := fun e => own_apart OT (.inl hPb) e.symm
  have hP2 : some P ≠ bv.ownBlock := fun e => own_apart OB (.inl hPb) e.symm
  have hP3 : some P ≠ ov.ownBlock := fun e => own_apart OI (.inl hPb) e.symm
  have fr := Fr.but (Fr.but FX (But.of_gr GX) hbX) (But.set (P := P) j u) (Nat.le_trans hbX GX.size)
  exact ⟨SX.gr GX, own_set (ownsRow_gr OT GX) hP1 j _, own_set (ownsRow_gr OB GX) hP2 j _, own_set (ownsRow_gr OI GX) hP3 j _, fr⟩
/-- token blocks stand -/
def KeepT (P : Nat) (w w' : World) : Prop := ∀ i gc, w.heap[i]? = some (.cells gc 32 (0, 0)) → i ≠ P → w.heap.size ≤ i + 1 → w'.heap[i]? = some (.cells gc 32 (0, 0))
variable {w w' : World} {P : Nat} {M : GoMap} {s : ByteArray} {at_ en : Nat} {tm : Bool} {tv bv ov : Value} {toks : List Tok} {terms : List Bool} {ops ops' : List Nat} {C : GoMap → Nat → Prop}
/-- a token is read, from whatever world -/
def TokH (w0 : World) (P : Nat) (M : GoMap) (s : ByteArray) (en : Nat) (tm : Bool) (tv bv ov : Value) (k : Int) (tx rp mo : ByteArray) (C : GoMap → Nat → Prop) : Prop :=
  ∀ W, Gr w0 W → Calls Tryd.prog 34 #[.pointer (some ⟨P, 0, none⟩)] W fun e w' => ∃ M' b, e = .returned (.agg #[.int .i64 k, .int .i64 0, .string tx, .string rp, .string mo, .int .i64 0]) ∧ Sc w' P M' s b en tm tv bv ov ∧ Bt P M.blk W w' ∧ M'.blk = M.blk ∧ C M' b
/-- a brace is told -/
def BraH (w0 : World) (P base : Nat) (Mb : Nat) (s : ByteArray) (en : Nat) (tm : Bool) (tv bv ov : Value) (toks : List Tok) (terms : List Bool) (ops ops' : List Nat) (tx : ByteArray) (d : Bool) (op : Nat) : Prop :=
  ∀ W (M' : GoMap) b, M'.blk = Mb → w0.heap.size ≤ W.heap.size → Sc W P M' s b en tm tv bv ov → Rows3 W base tv bv ov toks terms ops → Calls Tryd.prog 35 #[.pointer (some ⟨P, 0, none⟩), .string tx, .bool d] W fun e w' => e = .returned (.int .i64 (op : Int)) ∧ Fr P base W w' ∧ KeepT P W w' ∧ ∃ ov', Sc w' P M' s b en tm tv bv ov' ∧ Rows3 w' base tv bv ov' toks terms ops'
/-- the blocks below base stand but P and the map's -/
structure Fr2 (P Mb base : Nat) (w w' : World) : Prop where
  os : w'.os = w.os
  tape : w'.tape = w.tape
  output : w'.output = w.output
  size : w.heap.size ≤ w'.heap.size
  block : ∀ k, k < base → k ≠ P → k ≠ Mb → w'.heap[k]? = w.heap[k]?
theorem Fr2.of_bt {Mb base : Nat} (k : Bt P Mb w w') (hb : base ≤ w.heap.size) : Fr2 P Mb base w w' := ⟨k.os, k.tape, k.output, k.size, fun i h1 h2 h3 => k.block i (by omega) h2 h3⟩
theorem Fr2.fr {Mb base : Nat} {a b c : World} (h : Fr2 P Mb base a b) (k : Fr P base b c) : Fr2 P Mb base a c :=
  ⟨k.os.trans h.os, k.tape.trans h.tape, k.output.trans h.output, Nat.le_trans h.size k.size, fun i h1 h2 h3 => (k.block i h1 h2).trans (h.block i h1 h2 h3)⟩
set_option maxRecDepth 100000 in
set_option maxHeartbeats 4000000 in
theorem read_n {base : Nat} {k : Int} {tx rp mo : ByteArray} (h : Sc w P M s at_ en tm tv bv ov) (hR : Rows3 w base tv bv ov toks terms ops) (hPb : P < base) (hMb : M.blk < base) (hbw : base ≤ w.heap.size)
    (hT : TokH w P M s en tm tv bv ov k tx rp mo C) (hn : toks.length ≤ 4000 ∧ terms.length ≤ 4000) (hk : k ≠ 3) :
    Calls Tryd.prog 23 #[.pointer (some ⟨P, 0, none⟩)] w fun e w' => e = .returned (.tuple #[]) ∧ ∃ M' b tv' bv' ov', Sc w' P M' s b b (behindB k tx.data.toList 0 tm) tv' bv' ov' ∧ Rows3 w' base tv' bv' ov' (toks ++ [⟨k, at_, tx, rp, mo, 0⟩]) (terms ++ [tm]) ops ∧ Fr2 P M.blk base w w' ∧ M'.blk = M.blk ∧ C M' b := by
  have H := Lib.hid h
  have HT := Lib.hid hT
  unfold TokH at HT
  have HRw := Lib.hid hR
  obtain ⟨c0, c1, c2, c3, c4, c5, c6, c7, cf⟩ := h.cells
  have HH := Lib.hid (fun w => behind_p k (at_ : Int) tx rp mo 0 tm w)
  have hkb : (k == 3) = false := by simpa using hk
  obtain ⟨ops', hops⟩ : ∃ ops', ops' = ops := ⟨_, rfl⟩
  rw [← hops] at HRw ⊢
  obtain ⟨ov', hov⟩ : ∃ ov', ov' = ov := ⟨_, rfl⟩
  clear h hT hR hk
  go_enter Tryd.func23, Tryd.ntmps23
  go_wp2_with fail
  go_quiet (fail)
  clear c0 c1 c2 c3 c4 c5 c6 c7 cf
  go_wp2_with fail
  refine (HT.out _ ((Gr.refl w).drewN _)).mono ?_
  rintro e w2 ⟨M', b, rfl, hS2, hb2, hM2, hC2⟩
  have S2 := Lib.hid hS2
  have B2 := Lib.hid ((Bt.of_gr (A := P) (B := M.blk) ((Gr.refl w).drewN nq)).trans hb2)
  have HM := Lib.hid hM2
  have HC := Lib.hid hC2
  have R2 := Lib.hid (HRw.out.bt B2.out hPb hMb)
  have hw2s : w.heap.size ≤ w2.heap.size := B2.out.size
  have hMb' : M'.blk < base := by rw [hM2]; exact hMb
  have hgt : tv.ownBlock ≠ some w2.heap.size := own_apart R2.out.t (.inr (Nat.le_refl _))
  clear hS2 hb2 hM2 hC2 HT
  rw [← hov] at S2 R2
  go_wp2_with fail
  generalize hX : w2.alloc (.cells #[.int .i64 k, .int .i64 (at_ : Int), .string tx, .string rp, .string mo, .int .i64 0] 32) = X
  have GX : Gr w2 X := by rw [← hX]; exact (Gr.refl w2).alloc _
  have SX := Lib.hid (S2.out.gr GX)
  have RX := Lib.hid (R2.out.gr GX)
  have F2 := Lib.hid (Fr2.fr (Fr2.of_bt B2.out hbw) (Fr.of_but (P := P) (But.of_gr GX) (by omega)))
  have hXs : Hid (base ≤ X.heap.size) := Lib.hid (by have := GX.size; omega)
  obtain ⟨g, hg⟩ : ∃ g, g = w2.heap.size := ⟨_, rfl⟩
  have KX : Hid (X.heap[g]? = some (.cells #[.int .i64 k, .int .i64 (at_ : Int), .string tx, .string rp, .string mo, .int .i64 0] 32 (0, 0))) := Lib.hid (by rw [← hX, hg]; exact heap_alloc_new w2 _)
  rw [← hg] at hgt ⊢
  have hgP : P ≠ g := by omega
  clear hX GX S2 R2 B2 hops hov hg hw2s
  obtain ⟨kc, kf⟩ := cellsOf KX.out
  have t0 := kc 0
  have t1 := kc 1
  have t2 := kc 2
  have t3 := kc 3
  have t4 := kc 4
  have t5 := kc 5
  simp at t0 t1 t2 t3 t4 t5
  clear kc
  obtain ⟨c0, c1, c2, c3, c4, c5, c6, c7, cf⟩ := SX.out.cells
  obtain ⟨_, _, _, b3, b4, b5, _, _, _⟩ := (SX.out.gr ((Gr.refl X).alloc (.cells #[.int .i64 k, .int .i64 (at_ : Int), .string tx, .string rp, .string mo, .int .i64 0] 32))).cells
  obtain ⟨ti, hti, htz, hts, htb⟩ := info_parts infoTok
  obtain ⟨bi, hbi, hbz, hbs, hbb⟩ := info_parts infoBool
  go_cut [] from 31 (fun wx => ∃ tv', Sc wx P M' s b en tm tv' bv ov' ∧ wx.ownsRow base 32 6 tv' (toks.length + 1) (cellsT toks ++ #[.int .i64 k, .int .i64 (at_ : Int), .string tx, .string rp, .string mo, .int .i64 0].toList) ∧ OwnB wx base bv terms ∧ OwnI wx base ov' ops' ∧ wx.heap[g]? = some (.cells #[.int .i64 k, .int .i64 (at_ : Int), .string tx, .string rp, .string mo, .int .i64 0] 32 (0, 0)) ∧ Fr P base X wx)
  case first =>
    go_region_law (refine step_of rfl (wp_append_own _ (.tmp 35) (.tmp 37) 24 rfl base 32 ti (.agg #[.int .i64 0, .int .i64 0, .string ⟨#[]⟩, .string ⟨#[]⟩, .string ⟨#[]⟩, .int .i64 0]) 6 72 Tryd.underlying24 hti htz hts htb rfl (by decide) _ _ _ rfl (ownsRow_gr RX.out.t (((Gr.refl X).drew).alloc _)) ⟨X.heap.size, 0, none⟩ 1 1 #[.int .i64 k, .int .i64 (at_ : Int), .string tx, .string rp, .string mo, .int .i64 0].toList rfl rfl (fun j u hj => newCellsAt (by simp) hj) (by simp [Value.oneCell']) (by unfold maxLen; omega) (by omega) (by have := hXs.out; simp; omega) fun v' w' h1 h2 _ => ?_); obtain ⟨ao, cap, rfl⟩ := ownsRow_shape h1; have HR5 := Lib.hid (read5g SX.out hPb hMb' hXs.out (Fr.refl P base X) RX.out.t RX.out.b RX.out.o hgt hgP KX.out h1 h2); obtain ⟨_, _, _, _, d4, _, _, _, df⟩ := ((SX.out.gr (((Gr.refl X).drew).alloc _)).grown h2 (own_apart RX.out.t (.inl hPb)) (own_apart RX.out.t (.inl hMb'))).cells; clear h1 h2)
    all_goals
      go_wp2_with fail
      go_meet
      obtain ⟨a1, a2, a3, a4, a5, a6⟩ := HR5.out
      exact ⟨_, a1, a2, a3, a4, a5, a6⟩
  case rest =>
  obtain ⟨tv', d1, d2, d3, d4, d5, d6⟩ := hcut
  have SW := Lib.hid d1
  have TW := Lib.hid d2
  have BW := Lib.hid d3
  have IW := Lib.hid d4
  have KW := Lib.hid d5
  have FW := Lib.hid d6
  clear d1 d2 d3 d4 d5 d6 KX SX t0 t1 t2 t3 t4 t5 kf c0 c1 c2 c3 c4 c5 c6 c7 cf b3 b4 b5
  obtain ⟨c0, c1, c2, c3, c4, c5, c6, c7, cf⟩ := SW.out.cells
  obtain ⟨_, _, _, b3, b4, b5, _, _, _⟩ := (SW.out.gr ((Gr.refl wc).alloc (.cells #[.bool tm] 4))).cells
  have hwcs : Hid (base ≤ wc.heap.size) := Lib.hid (by have := FW.out.size; have := hXs.out; omega)
  go_wp2_with fail
  go_cut [] from 41 (fun wx => ∃ bv', Sc wx P M' s b en tm tv' bv' ov' ∧ wx.ownsRow base 32 6 tv' (toks.length + 1) (cellsT toks ++ #[.int .i64 k, .int .i64 (at_ : Int), .string tx, .string rp, .string mo, .int .i64 0].toList) ∧ wx.ownsRow base 4 1 bv' (terms.length + 1) (terms.map Value.bool ++ [.bool tm]) ∧ OwnI wx base ov' ops' ∧ wx.heap[g]? = some (.cells #[.int .i64 k, .int .i64 (at_ : Int), .string tx, .string rp, .string mo, .int .i64 0] 32 (0, 0)) ∧ Fr P base X wx)
  case first =>
    go_region_law (refine step_of rfl (wp_append_own _ (.tmp 45) (.tmp 50) 36 rfl base 4 bi (.bool false) 1 1 Tryd.underlying36 hbi hbz hbs hbb rfl (by decide) _ _ _ rfl (ownsRow_gr BW.out (((Gr.refl wc).drew).alloc _)) ⟨wc.heap.size, 0, none⟩ 1 1 [.bool tm] rfl rfl (fun j u hj => newCellsAt (by simp) hj) (by simp [Value.oneCell']) (by unfold maxLen; omega) (by omega) (by have := hwcs.out; simp; omega) fun v' w' h1 h2 _ => ?_); obtain ⟨ao, cap, rfl⟩ := ownsRow_shape h1; have HR6 := Lib.hid (read6g SW.out hPb hMb' hwcs.out FW.out TW.out BW.out IW.out hgP KW.out h1 h2); obtain ⟨_, _, _, _, _, d5, _, _, df⟩ := ((SW.out.gr (((Gr.refl wc).drew).alloc _)).grown h2 (own_apart BW.out (.inl hPb)) (own_apart BW.out (.inl hMb'))).cells; clear h1 h2)
    all_goals
      go_wp2_with fail
      go_meet
      obtain ⟨a1, a2, a3, a4, a5, a6⟩ := HR6.out
      exact ⟨_, a1, a2, a3, a4, a5, a6⟩
  case rest =>
  obtain ⟨bv', d1, d2, d3, d4, d5, d6⟩ := hcut
  clear SW TW BW IW KW FW c0 c1 c2 c3 c4 c5 c6 c7 cf b3 b4 b5 hwcs
  have SW := Lib.hid d1
  have TW := Lib.hid d2
  have BW := Lib.hid d3
  have IW := Lib.hid d4
  have KW := Lib.hid d5
  have FW := Lib.hid d6
  clear d1 d2 d3 d4 d5 d6
  have hwcs : Hid (base ≤ wc.heap.size) := Lib.hid (by have := FW.out.size; have := hXs.out; omega)
  obtain ⟨c0, c1, c2, c3, c4, c5, c6, c7, cf⟩ := SW.out.cells
  obtain ⟨kc, _⟩ := cellsOf KW.out
  have t0 := kc 0
  have t1 := kc 1
  have t2 := kc 2
  have t3 := kc 3
  have t4 := kc 4
  have t5 := kc 5
  simp at t0 t1 t2 t3 t4 t5
  clear kc
  go_wp2_with fail
  go_cut [] from 51 (fun wx => Sc wx P M' s b en (behindB k tx.data.toList 0 tm) tv' bv' ov' ∧ wx.ownsRow base 32 6 tv' (toks.length + 1) (cellsT toks ++ #[.int .i64 k, .int .i64 (at_ : Int), .string tx, .string rp, .string mo, .int .i64 0].toList) ∧ wx.ownsRow base 4 1 bv' (terms.length + 1) (terms.map Value.bool ++ [.bool tm]) ∧ OwnI wx base ov' ops' ∧ Fr P base X wx)
  case first =>
    go_region_with (go_at_call 18; refine (HH.out _).mono ?_; rintro e9 w9 ⟨rfl, g9⟩; have G9 := Lib.hid g9; clear g9; have S9 := Lib.hid ((SW.out.gr ((Gr.refl _).drew)).gr G9.out); obtain ⟨_, _, _, d3, _, _, _, _, df⟩ := S9.out.cells)
    all_goals
      go_wp2_with fail
      go_meet
      obtain ⟨a1, a2, a3, a4, a5⟩ := read7g (j := 3) (u := .bool (behindB k tx.data.toList 0 tm)) SW.out hPb hwcs.out FW.out TW.out BW.out IW.out (((Gr.refl _).drew).trans G9.out)
      exact ⟨a1.setTm _, a2, a3, a4, a5⟩
  case rest =>
  clear SW TW BW IW KW FW c0 c1 c2 c3 c4 c5 c6 c7 cf t0 t1 t2 t3 t4 t5 hwcs
  obtain ⟨d1, d2, d3, d4, d5⟩ := hcut
  have SW := Lib.hid d1
  have TW := Lib.hid d2
  have BW := Lib.hid d3
  have IW := Lib.hid d4
  have FW := Lib.hid d5
  clear d1 d2 d3 d4 d5
  obtain ⟨c0, c1, c2, c3, c4, c5, c6, c7, cf⟩ := SW.out.cells
  go_wp2_with fail
  go_end0
  obtain ⟨a1, a2, a3, a4, a5⟩ := read7g (j := 2) (u := .int .i64 (b : Int)) SW.out hPb (by have := FW.out.size; have := hXs.out; omega) FW.out TW.out BW.out IW.out (Gr.refl _)
  refine ⟨rfl, M', b, tv', bv', ov', a1.setEn b, ⟨?_, ?_, a4⟩, Fr2.fr F2.out a5, HM.out, HC.out⟩
  · have e1 : (toks ++ [(⟨k, at_, tx, rp, mo, 0⟩ : Tok)]).length = toks.length + 1 := by simp
    have e2 : cellsT (toks ++ [(⟨k, at_, tx, rp, mo, 0⟩ : Tok)]) = cellsT toks ++ #[.int .i64 k, .int .i64 (at_ : Int), .string tx, .string rp, .string mo, .int .i64 0].toList := by rw [cellsT_app]; rfl
    show World.ownsRow _ _ _ _ _ _ _
    rw [e1, e2]
    exact a2
  · have e1 : (terms ++ [tm]).length = terms.length + 1 := by simp
    have e2 : (terms ++ [tm]).map Value.bool = terms.map Value.bool ++ [.bool tm] := by simp
    show World.ownsRow _ _ _ _ _ _ _
    rw [e1, e2]
    exact a3
set_option maxRecDepth 100000 in
set_option maxHeartbeats 4000000 in
theorem read_s {base : Nat} {tx rp mo : ByteArray} (h : Sc w P M s at_ en tm tv bv ov) (hR : Rows3 w base tv bv ov toks terms ops) (hPb : P < base) (hMb : M.blk < base) (hbw : base ≤ w.heap.size)
    (hT : TokH w P M s en tm tv bv ov 3 tx rp mo C) (hn : toks.length ≤ 4000 ∧ terms.length ≤ 4000) (op : Nat) (hB : BraH w P base M.blk s en tm tv bv ov toks terms ops ops' tx (decide (at_ = en)) op) :
    Calls Tryd.prog 23 #[.pointer (some ⟨P, 0, none⟩)] w fun e w' => e = .returned (.tuple #[]) ∧ ∃ M' b tv' bv' ov', Sc w' P M' s b b (behindB 3 tx.data.toList (op : Int) tm) tv' bv' ov' ∧ Rows3 w' base tv' bv' ov' (toks ++ [⟨3, at_, tx, rp, mo, (op : Int)⟩]) (terms ++ [tm]) ops' ∧ Fr2 P M.blk base w w' ∧ M'.blk = M.blk ∧ C M' b := by
  have H := Lib.hid h
  have HT := Lib.hid hT
  unfold TokH at HT
  have HRw := Lib.hid hR
  obtain ⟨c0, c1, c2, c3, c4, c5, c6, c7, cf⟩ := h.cells
  have HH := Lib.hid (fun w => behind_p 3 (at_ : Int) tx rp mo (op : Int) tm w)
  have HB := Lib.hid hB
  unfold BraH at HB
  have hd : ((at_ : Int) == (en : Int)) = decide (at_ = en) := by
    by_cases e : at_ = en
    · subst e; simp
    · have : ((at_ : Int) == (en : Int)) = false := by simp; omega
      rw [this]; simp [e]
  generalize decide (at_ = en) = d at *
  clear h hT hR hB
  go_enter Tryd.func23, Tryd.ntmps23
  go_wp2_with fail
  go_quiet (fail)
  clear c0 c1 c2 c3 c4 c5 c6 c7 cf
  go_wp2_with fail
  refine (HT.out _ ((Gr.refl w).drewN _)).mono ?_
  rintro e w2 ⟨M', b, rfl, hS2, hb2, hM2, hC2⟩
  have S2 := Lib.hid hS2
  have B2 := Lib.hid ((Bt.of_gr (A := P) (B := M.blk) ((Gr.refl w).drewN nq)).trans hb2)
  have HM := Lib.hid hM2
  have HC := Lib.hid hC2
  have R2 := Lib.hid (HRw.out.bt B2.out hPb hMb)
  have hw2s : w.heap.size ≤ w2.heap.size := B2.out.size
  have hMb' : M'.blk < base := by rw [hM2]; exact hMb
  have hgt : tv.ownBlock ≠ some w2.heap.size := own_apart R2.out.t (.inr (Nat.le_refl _))
  clear hS2 hb2 hM2 hC2 HT
  go_wp2_with fail
  generalize hX : w2.alloc (.cells #[.int .i64 3, .int .i64 (at_ : Int), .string tx, .string rp, .string mo, .int .i64 0] 32) = X0
  have GX0 : Gr w2 X0 := by rw [← hX]; exact (Gr.refl w2).alloc _
  obtain ⟨g, hg⟩ : ∃ g, g = w2.heap.size := ⟨_, rfl⟩
  have K0 : Hid (X0.heap[g]? = some (.cells #[.int .i64 3, .int .i64 (at_ : Int), .string tx, .string rp, .string mo, .int .i64 0] 32 (0, 0))) := Lib.hid (by rw [← hX, hg]; exact heap_alloc_new w2 _)
  have hX0s : X0.heap.size = w2.heap.size + 1 := by rw [← hX]; simp
  have S0 := Lib.hid (S2.out.gr GX0)
  have R0 := Lib.hid (R2.out.gr GX0)
  have F0 := Lib.hid (Fr2.fr (Fr2.of_bt B2.out hbw) (Fr.of_but (P := P) (But.of_gr GX0) (by omega)))
  rw [← hg] at hgt ⊢
  have hgP : P ≠ g := by omega
  have hgb : base ≤ g := by omega
  refine (HB.out _ M' b HM.out (by omega) S0.out R0.out).mono ?_
  rintro e w3 ⟨rfl, hF3, hk3, ov', hS3, hR3⟩
  have K3 := Lib.hid (hk3 g _ K0.out (by omega) (by omega))
  have S3 := Lib.hid hS3
  have R3 := Lib.hid hR3
  have F3 := Lib.hid (Fr2.fr F0.out hF3)
  have hw3s : Hid (base ≤ w3.heap.size) := Lib.hid (by have := hF3.size; omega)
  clear hF3 hk3 hS3 hR3 hX GX0 S2 R2 B2 hg hw2s S0 R0 F0 K0 hX0s HB
  obtain ⟨kc, kf⟩ := cellsOf K3.out
  have t5 := kc 5
  simp at t5
  clear kc
  go_wp2_with fail
  obtain ⟨X, hX⟩ : ∃ X, X = w3.setCell ⟨g, 5, none⟩ (.int .i64 (op : Int)) := ⟨_, rfl⟩
  rw [← hX]
  have BS : But g w3 X := by rw [hX]; exact But.set 5 _
  have SX := Lib.hid (S3.out.but BS hgP (by omega))
  have RX : Hid (Rows3 X base tv bv ov' toks terms ops') := Lib.hid (by rw [hX]; exact ⟨own_set R3.out.t (fun e => hgt e.symm) 5 _, own_set R3.out.b (fun e => own_ty R3.out.b K3.out (by decide) e.symm) 5 _, own_set R3.out.o (fun e => own_ty R3.out.o K3.out (by decide) e.symm) 5 _⟩)
  have F2 : Hid (Fr2 P M.blk base w X) := Lib.hid (Fr2.fr F3.out ⟨BS.os, BS.tape, BS.output, BS.size, fun i h1 h2 => BS.block i (by have := hw3s.out; omega) (fun e => by injection e with e; omega)⟩)
  have hXs : Hid (base ≤ X.heap.size) := Lib.hid (by have := hw3s.out; have := BS.size; omega)
  have KX : Hid (X.heap[g]? = some (.cells #[.int .i64 3, .int .i64 (at_ : Int), .string tx, .string rp, .string mo, .int .i64 (op : Int)] 32 (0, 0))) := Lib.hid (by
    have := K3.out
    rw [hX]
    simp [World.setCell, Array.getElem?_modify, this])
  clear hX BS S3 R3 F3 K3 hw3s t5 kf
  obtain ⟨kc, kf⟩ := cellsOf KX.out
  have t0 := kc 0
  have t1 := kc 1
  have t2 := kc 2
  have t3 := kc 3
  have t4 := kc 4
  have t5 := kc 5
  simp at t0 t1 t2 t3 t4 t5
  clear kc
  obtain ⟨c0, c1, c2, c3, c4, c5, c6, c7, cf⟩ := SX.out.cells
  obtain ⟨_, _, _, b3, b4, b5, _, _, _⟩ := (SX.out.gr ((Gr.refl X).alloc (.cells #[.int .i64 3, .int .i64 (at_ : Int), .string tx, .string rp, .string mo, .int .i64 (op : Int)] 32))).cells
  obtain ⟨ti, hti, htz, hts, htb⟩ := info_parts infoTok
  obtain ⟨bi, hbi, hbz, hbs, hbb⟩ := info_parts infoBool
  go_cut [] from 31 (fun wx => ∃ tv', Sc wx P M' s b en tm tv' bv ov' ∧ wx.ownsRow base 32 6 tv' (toks.length + 1) (cellsT toks ++ #[.int .i64 3, .int .i64 (at_ : Int), .string tx, .string rp, .string mo, .int .i64 (op : Int)].toList) ∧ OwnB wx base bv terms ∧ OwnI wx base ov' ops' ∧ wx.heap[g]? = some (.cells #[.int .i64 3, .int .i64 (at_ : Int), .string tx, .string rp, .string mo, .int .i64 (op : Int)] 32 (0, 0)) ∧ Fr P base X wx)
  case first =>
    go_region_law (refine step_of rfl (wp_append_own _ (.tmp 35) (.tmp 37) 24 rfl base 32 ti (.agg #[.int .i64 0, .int .i64 0, .string ⟨#[]⟩, .string ⟨#[]⟩, .string ⟨#[]⟩, .int .i64 0]) 6 72 Tryd.underlying24 hti htz hts htb rfl (by decide) _ _ _ rfl (ownsRow_gr RX.out.t (((Gr.refl X).drew).alloc _)) ⟨X.heap.size, 0, none⟩ 1 1 #[.int .i64 3, .int .i64 (at_ : Int), .string tx, .string rp, .string mo, .int .i64 (op : Int)].toList rfl rfl (fun j u hj => newCellsAt (by simp) hj) (by simp [Value.oneCell']) (by unfold maxLen; omega) (by omega) (by have := hXs.out; simp; omega) fun v' w' h1 h2 _ => ?_); obtain ⟨ao, cap, rfl⟩ := ownsRow_shape h1; have HR5 := Lib.hid (read5g SX.out hPb hMb' hXs.out (Fr.refl P base X) RX.out.t RX.out.b RX.out.o hgt hgP KX.out h1 h2); obtain ⟨_, _, _, _, d4, _, _, _, df⟩ := ((SX.out.gr (((Gr.refl X).drew).alloc _)).grown h2 (own_apart RX.out.t (.inl hPb)) (own_apart RX.out.t (.inl hMb'))).cells; clear h1 h2)
    all_goals
      go_wp2_with fail
      go_meet
      obtain ⟨a1, a2, a3, a4, a5, a6⟩ := HR5.out
      exact ⟨_, a1, a2, a3, a4, a5, a6⟩
  case rest =>
  obtain ⟨tv', d1, d2, d3, d4, d5, d6⟩ := hcut
  have SW := Lib.hid d1
  have TW := Lib.hid d2
  have BW := Lib.hid d3
  have IW := Lib.hid d4
  have KW := Lib.hid d5
  have FW := Lib.hid d6
  clear d1 d2 d3 d4 d5 d6 KX SX t0 t1 t2 t3 t4 t5 kf c0 c1 c2 c3 c4 c5 c6 c7 cf b3 b4 b5
  obtain ⟨c0, c1, c2, c3, c4, c5, c6, c7, cf⟩ := SW.out.cells
  obtain ⟨_, _, _, b3, b4, b5, _, _, _⟩ := (SW.out.gr ((Gr.refl wc).alloc (.cells #[.bool tm] 4))).cells
  have hwcs : Hid (base ≤ wc.heap.size) := Lib.hid (by have := FW.out.size; have := hXs.out; omega)
  go_wp2_with fail
  go_cut [] from 41 (fun wx => ∃ bv', Sc wx P M' s b en tm tv' bv' ov' ∧ wx.ownsRow base 32 6 tv' (toks.length + 1) (cellsT toks ++ #[.int .i64 3, .int .i64 (at_ : Int), .string tx, .string rp, .string mo, .int .i64 (op : Int)].toList) ∧ wx.ownsRow base 4 1 bv' (terms.length + 1) (terms.map Value.bool ++ [.bool tm]) ∧ OwnI wx base ov' ops' ∧ wx.heap[g]? = some (.cells #[.int .i64 3, .int .i64 (at_ : Int), .string tx, .string rp, .string mo, .int .i64 (op : Int)] 32 (0, 0)) ∧ Fr P base X wx)
  case first =>
    go_region_law (refine step_of rfl (wp_append_own _ (.tmp 45) (.tmp 50) 36 rfl base 4 bi (.bool false) 1 1 Tryd.underlying36 hbi hbz hbs hbb rfl (by decide) _ _ _ rfl (ownsRow_gr BW.out (((Gr.refl wc).drew).alloc _)) ⟨wc.heap.size, 0, none⟩ 1 1 [.bool tm] rfl rfl (fun j u hj => newCellsAt (by simp) hj) (by simp [Value.oneCell']) (by unfold maxLen; omega) (by omega) (by have := hwcs.out; simp; omega) fun v' w' h1 h2 _ => ?_); obtain ⟨ao, cap, rfl⟩ := ownsRow_shape h1; have HR6 := Lib.hid (read6g SW.out hPb hMb' hwcs.out FW.out TW.out BW.out IW.out hgP KW.out h1 h2); obtain ⟨_, _, _, _, _, d5, _, _, df⟩ := ((SW.out.gr (((Gr.refl wc).drew).alloc _)).grown h2 (own_apart BW.out (.inl hPb)) (own_apart BW.out (.inl hMb'))).cells; clear h1 h2)
    all_goals
      go_wp2_with fail
      go_meet
      obtain ⟨a1, a2, a3, a4, a5, a6⟩ := HR6.out
      exact ⟨_, a1, a2, a3, a4, a5, a6⟩
  case rest =>
  obtain ⟨bv', d1, d2, d3, d4, d5, d6⟩ := hcut
  clear SW TW BW IW KW FW c0 c1 c2 c3 c4 c5 c6 c7 cf b3 b4 b5 hwcs
  have SW := Lib.hid d1
  have TW := Lib.hid d2
  have BW := Lib.hid d3
  have IW := Lib.hid d4
  have KW := Lib.hid d5
  have FW := Lib.hid d6
  clear d1 d2 d3 d4 d5 d6
  have hwcs : Hid (base ≤ wc.heap.size) := Lib.hid (by have := FW.out.size; have := hXs.out; omega)
  obtain ⟨c0, c1, c2, c3, c4, c5, c6, c7, cf⟩ := SW.out.cells
  obtain ⟨kc, _⟩ := cellsOf KW.out
  have t0 := kc 0
  have t1 := kc 1
  have t2 := kc 2
  have t3 := kc 3
  have t4 := kc 4
  have t5 := kc 5
  simp at t0 t1 t2 t3 t4 t5
  clear kc
  go_wp2_with fail
  go_cut [] from 51 (fun wx => Sc wx P M' s b en (behindB 3 tx.data.toList (op : Int) tm) tv' bv' ov' ∧ wx.ownsRow base 32 6 tv' (toks.length + 1) (cellsT toks ++ #[.int .i64 3, .int .i64 (at_ : Int), .string tx, .string rp, .string mo, .int .i64 (op : Int)].toList) ∧ wx.ownsRow base 4 1 bv' (terms.length + 1) (terms.map Value.bool ++ [.bool tm]) ∧ OwnI wx base ov' ops' ∧ Fr P base X wx)
  case first =>
    go_region_with (go_at_call 18; refine (HH.out _).mono ?_; rintro e9 w9 ⟨rfl, g9⟩; have G9 := Lib.hid g9; clear g9; have S9 := Lib.hid ((SW.out.gr ((Gr.refl _).drew)).gr G9.out); obtain ⟨_, _, _, d3, _, _, _, _, df⟩ := S9.out.cells)
    all_goals
      go_wp2_with fail
      go_meet
      obtain ⟨a1, a2, a3, a4, a5⟩ := read7g (j := 3) (u := .bool (behindB 3 tx.data.toList (op : Int) tm)) SW.out hPb hwcs.out FW.out TW.out BW.out IW.out (((Gr.refl _).drew).trans G9.out)
      exact ⟨a1.setTm _, a2, a3, a4, a5⟩
  case rest =>
  clear SW TW BW IW KW FW c0 c1 c2 c3 c4 c5 c6 c7 cf t0 t1 t2 t3 t4 t5 hwcs
  obtain ⟨d1, d2, d3, d4, d5⟩ := hcut
  have SW := Lib.hid d1
  have TW := Lib.hid d2
  have BW := Lib.hid d3
  have IW := Lib.hid d4
  have FW := Lib.hid d5
  clear d1 d2 d3 d4 d5
  obtain ⟨c0, c1, c2, c3, c4, c5, c6, c7, cf⟩ := SW.out.cells
  go_wp2_with fail
  go_end0
  obtain ⟨a1, a2, a3, a4, a5⟩ := read7g (j := 2) (u := .int .i64 (b : Int)) SW.out hPb (by have := FW.out.size; have := hXs.out; omega) FW.out TW.out BW.out IW.out (Gr.refl _)
  refine ⟨rfl, M', b, tv', bv', ov', a1.setEn b, ⟨?_, ?_, a4⟩, Fr2.fr F2.out a5, HM.out, HC.out⟩
  · have e1 : (toks ++ [(⟨3, at_, tx, rp, mo, (op : Int)⟩ : Tok)]).length = toks.length + 1 := by simp
    have e2 : cellsT (toks ++ [(⟨3, at_, tx, rp, mo, (op : Int)⟩ : Tok)]) = cellsT toks ++ #[.int .i64 3, .int .i64 (at_ : Int), .string tx, .string rp, .string mo, .int .i64 (op : Int)].toList := by rw [cellsT_app]; rfl
    show World.ownsRow _ _ _ _ _ _ _
    rw [e1, e2]
    exact a2
  · have e1 : (terms ++ [tm]).length = terms.length + 1 := by simp
    have e2 : (terms ++ [tm]).map Value.bool = terms.map Value.bool ++ [.bool tm] := by simp
    show World.ownsRow _ _ _ _ _ _ _
    rw [e1, e2]
    exact a3
set_option maxRecDepth 100000 in
theorem read_bad (h : Sc w P M s at_ en tm tv bv ov) (hT : ∀ W, Gr w W → Calls Tryd.prog 34 #[.pointer (some ⟨P, 0, none⟩)] W fun e w' => Bad s e ∧ Bt P M.blk W w') :
    Calls Tryd.prog 23 #[.pointer (some ⟨P, 0, none⟩)] w fun e w' => Bad s e ∧ Bt P M.blk w w' := by
  have HT := Lib.hid hT
  obtain ⟨c0, c1, c2, c3, c4, c5, c6, c7, cf⟩ := h.cells
  clear h hT
  go_enter Tryd.func23, Tryd.ntmps23
  go_wp2_with fail
  go_quiet (fail)
  clear c0 c1 c2 c3 c4 c5 c6 c7 cf
  go_wp2_with fail
  refine (HT.out _ ((Gr.refl w).drewN _)).mono ?_
  rintro e w2 ⟨⟨q, hq, rfl⟩, hb2⟩
  go_wp2_with fail
  exact ⟨rfl, ⟨q, hq, rfl⟩, (Bt.of_gr ((Gr.refl w).drewN _)).trans hb2⟩
end Go.Proofs.YthmopindibdhnaaDoor.G
namespace Go.Proofs.YthmopindibdhnaaDoor.G
open Go.RowKit Go.Shelf Go.Maps
/-- the token in memory -/
def rend (t : RTok) : Tok := ⟨t.kind, t.place, ba (textP t), ba (replP t), ba t.more, t.opn⟩
/-- what holds of every token that was read -/
structure RInv (t : RTok) (term : Bool) : Prop where
  form : t.kind = 3 → t.form = 0
  brace : t.opn = 1 → isSg t [123] = true ∨ isSg t [125] = true
  sig : isSg t [36] = true ∨ isSg t [64] = true → term = true
theorem textP_sign {t : RTok} {b : Bool} (h : RInv t b) (hk : t.kind = 3) : textP t = t.raw := by
  unfold textP; rw [if_pos (h.form hk)]
theorem ba_data (l : List UInt8) : (ba l).data.toList = l := by simp [ba]
theorem isSgT_rend {t : RTok} {b : Bool} (h : RInv t b) (l : List UInt8) : isSgT (rend t) l = isSg t l := by
  unfold isSgT isSg rend
  by_cases hk : t.kind = 3
  · rw [ba_data, textP_sign h hk]; simp [hk]
  · have h1 : (t.kind == 3) = false := by simpa using hk
    have h2 : ((t.kind : Int) == 3) = false := by simp; omega
    simp [h1, h2]
theorem opn_rend (t : RTok) (n : Nat) : ((rend t).opn == (n : Int)) = (t.opn == n) := by
  show ((t.opn : Int) == (n : Int)) = (t.opn == n)
  rw [Bool.eq_iff_iff, beq_iff_eq, beq_iff_eq]
  omega
theorem kind_rend (t : RTok) (n : Nat) : ((rend t).kind == (n : Int)) = (t.kind == n) := by
  show ((t.kind : Int) == (n : Int)) = (t.kind == n)
  rw [Bool.eq_iff_iff, beq_iff_eq, beq_iff_eq]
  omega
theorem endsT_rend {t : RTok} {b : Bool} (h : RInv t b) : endsT (rend t) = endsS t := by
  unfold endsT endsS
  rw [isSgT_rend h, show ((rend t).opn == 1) = (t.opn == 1) from opn_rend t 1]
  by_cases h1 : t.opn = 1
  · have hb := h.brace h1
    rw [← Bool.or_eq_true] at hb
    rw [hb, Bool.true_and]
  · have : (t.opn == 1) = false := by simpa using h1
    rw [this, Bool.and_false]
/-- all of them, the last one first -/
def RInvs : List RTok → List Bool → Prop
  | [], [] => True
  | t :: ts, b :: bs => RInv t b ∧ RInvs ts bs
  | _, _ => False
theorem RInvs.len : ∀ {rt : List RTok} {tms : List Bool}, RInvs rt tms → rt.length = tms.length
  | [], [], _ => rfl
  | _ :: _, _ :: _, h => by simp [RInvs.len h.2]
  | [], _ :: _, h => h.elim
  | _ :: _, [], h => h.elim
def toksOf (rt : List RTok) : List Tok := (rt.map rend).reverse
theorem toksOf_len (rt : List RTok) : (toksOf rt).length = rt.length := by simp [toksOf]
theorem toksOf_cons (t : RTok) (rt : List RTok) : toksOf (t :: rt) = toksOf rt ++ [rend t] := by simp [toksOf]
def semi : Tok := tok 3 ⟨#[59]⟩
theorem lastT_of (rt : List RTok) (n : Nat) (hn : 0 < n) : lastT (toksOf rt) n = ((rt.map rend)[n - 1]?).getD semi := by
  unfold lastT
  by_cases h : n ≤ rt.length
  · rw [dif_pos ⟨by rw [toksOf_len]; exact h, hn⟩]
    have h1 : n - 1 < (rt.map rend).length := by simp; omega
    rw [List.getElem?_eq_getElem h1, Option.getD_some]
    simp only [toksOf, List.getElem_reverse, List.length_reverse]
    congr 1
    simp
    omega
  · rw [dif_neg (by rw [toksOf_len]; omega)]
    have h1 : (rt.map rend).length ≤ n - 1 := by simp; omega
    rw [List.getElem?_eq_none h1]; rfl
theorem isSg_ne {t : RTok} {l m : List UInt8} (h : isSg t l = true) (hne : l ≠ m) : isSg t m = false := by
  unfold isSg at *
  simp only [Bool.and_eq_true, beq_iff_eq] at h
  simp [h.1, h.2, hne]
theorem subT_rend {t : RTok} {b : Bool} (h : RInv t b) (near : Bool) : subT (rend t) b near = (((b && (isSg t [36] || isSg t [64] || isSg t [37] || isSg t [38])) || isSg t [45, 62]) || (near && (t.kind == 2 || isSg t [93] || (isSg t [125] && t.opn == 2)))) := by
  unfold subT
  by_cases h2 : t.kind = 2
  · rw [if_pos (show (rend t).kind = 2 by simp [rend, h2])]
    simp [isSg, h2]
  · rw [if_neg (show ¬ (rend t).kind = 2 by simp [rend]; omega)]
    by_cases h3 : t.kind = 3
    · rw [if_pos (show (rend t).kind = 3 by simp [rend, h3])]
      have e1 : (rend t).text.data.toList = t.raw := by rw [← textP_sign h h3]; exact ba_data _
      have e2 : ((rend t).opn == 2) = (t.opn == 2) := opn_rend t 2
      have hs : ∀ l, isSg t l = (t.raw == l) := fun l => by simp [isSg, h3]
      have hd := h.sig
      have hk2 : (t.kind == 2) = false := by simpa using h2
      unfold subB
      rw [e1, e2]
      simp only [hs, hk2, Bool.false_or] at hd ⊢
      clear e1 e2 hs hk2 h h2 h3
      by_cases a1 : t.raw = [45, 62]
      · simp [a1]
      · by_cases a2 : t.raw = [36]
        · have := hd (.inl (by simp [a2])); simp [a2, this]
        · by_cases a3 : t.raw = [64]
          · have := hd (.inr (by simp [a3])); simp [a3, this]
          · by_cases a4 : t.raw = [37]
            · simp [a4]
            · by_cases a5 : t.raw = [38]
              · simp [a5]
              · by_cases a6 : t.raw = [93]
                · simp [a6]
                · by_cases a7 : t.raw = [125]
                  · simp [a7]
                  · simp [a1, a2, a3, a4, a5, a6, a7]
    · rw [if_neg (show ¬ (rend t).kind = 3 by simp [rend]; omega)]
      have hs : ∀ l, isSg t l = false := fun l => by simp [isSg, h3]
      simp [hs, h2]
theorem semi_ends : endsT semi = true := by unfold endsT isSgT semi tok; rfl
def blockS : List RTok → Bool
  | [] => true
  | [x] => x.kind == 0 || isSg x [41] || endsS x
  | x :: y :: ys => (x.kind == 0 || isSg x [41] || endsS x) || (isSg x [58] && y.kind == 0 && begS ys)
theorem blockS_3 (x y : RTok) (ys : List RTok) : blockS (x :: y :: ys) = ((x.kind == 0 || isSg x [41] || endsS x) || (isSg x [58] && y.kind == 0 && begS ys)) := rfl
theorem ifs3 (A B C : Bool) : (if (A || B) = true then 2 else if C = true then 1 else 3 : Nat) = if A = true then 2 else if B = true then 2 else if C = true then 1 else 3 := by cases A <;> cases B <;> cases C <;> rfl
theorem ifs4 (A B C D : Bool) : (if (A || B) = true then 2 else if (C || D) = true then 1 else 3 : Nat) = if A = true then 2 else if B = true then 2 else if C = true then 1 else if D = true then 1 else 3 := by cases A <;> cases B <;> cases C <;> cases D <;> rfl
theorem ifs2 (C Y E : Bool) : (if (false && Y) = true then E else C) = (C || (false && Y && E)) := by cases C <;> cases Y <;> rfl
theorem blockT_of : ∀ {rt : List RTok} {tms : List Bool}, RInvs rt tms → blockT (toksOf rt) = blockS rt
  | [], _, _ => rfl
  | [x], [b], h => by
    unfold blockT
    rw [lastT_of _ 1 (by omega), lastT_of _ 2 (by omega)]
    have k0 : ((rend x).kind == 0) = (x.kind == 0) := kind_rend x 0
    have e1 : (([x].map rend)[1 - 1]?).getD semi = rend x := rfl
    have e2 : (([x].map rend)[2 - 1]?).getD semi = semi := rfl
    have e3 : (semi.kind == 0) = false := rfl
    rw [e1, e2, e3, isSgT_rend h.1, isSgT_rend h.1, endsT_rend h.1, k0, Bool.and_false, if_neg (show ¬ false = true from by decide)]
    rfl
  | x :: y :: ys, b :: c :: cs, h => by
    unfold blockT
    rw [lastT_of _ 1 (by omega), lastT_of _ 2 (by omega), lastT_of _ 3 (by omega)]
    have k0 : ((rend x).kind == 0) = (x.kind == 0) := kind_rend x 0
    have ky : ((rend y).kind == 0) = (y.kind == 0) := kind_rend y 0
    have e1 : (((x :: y :: ys).map rend)[1 - 1]?).getD semi = rend x := rfl
    have e2 : (((x :: y :: ys).map rend)[2 - 1]?).getD semi = rend y := rfl
    have e3 : endsT ((((x :: y :: ys).map rend)[3 - 1]?).getD semi) = begS ys := by
      match ys, cs, h.2.2 with
      | [], _, _ => exact semi_ends
      | z :: zs, d :: ds, h3 => exact endsT_rend h3.1
    rw [e3, e1, e2, isSgT_rend h.1, isSgT_rend h.1, endsT_rend h.1, k0, ky, blockS_3]
    cases h58 : isSg x [58] with
    | true =>
      have hk3 : x.kind = 3 := by unfold isSg at h58; simp at h58; exact h58.1
      have n1 := isSg_ne (m := [41]) h58 (by decide)
      have n2 := isSg_ne (m := [59]) h58 (by decide)
      have n3 := isSg_ne (m := [123]) h58 (by decide)
      have n4 := isSg_ne (m := [125]) h58 (by decide)
      have n5 : endsS x = false := by unfold endsS; simp [n2, n3, n4]
      have n6 : (x.kind == 0) = false := by simp [hk3]
      rw [n1, n5, n6]
      cases (y.kind == 0) <;> cases begS ys <;> rfl
    | false => exact ifs2 _ _ _
theorem open_eq : ∀ {rt : List RTok} {tms : List Bool}, RInvs rt tms → ∀ near : Bool, openT (toksOf rt) (tms.headD false) near = openS rt tms near
  | [], [], _, _ => rfl
  | [x], [b], h, near => by
    unfold openT
    rw [blockT_of h, lastT_of _ 1 (by omega), show ((List.map rend [x])[1 - 1]?).getD semi = rend x from rfl, show ([b]).headD false = b from rfl, subT_rend h.1 near]
    exact ifs3 _ _ _
  | x :: y :: ys, b :: c :: cs, h, near => by
    unfold openT
    rw [blockT_of h, lastT_of _ 1 (by omega), show ((List.map rend (x :: y :: ys))[1 - 1]?).getD semi = rend x from rfl, show (b :: c :: cs).headD false = b from rfl, subT_rend h.1 near]
    rw [blockS_3]
    exact ifs4 _ _ _ _
end Go.Proofs.YthmopindibdhnaaDoor.G
namespace Go.Proofs.YthmopindibdhnaaDoor.G
open Go.RowKit Go.Shelf Go.Maps
theorem quoteS_inv {pl : Nat} {k : Int} {R R2 : Src} {t : RTok} (h : quoteS pl k R = some (t, R2)) : t.kind ≠ 3 ∧ t.kind ≠ 0 ∧ t.opn = 0 ∧ t.place = pl := by
  cases R with
  | nil => exact nomatch h
  | cons x R =>
    unfold quoteS at h
    simp only at h
    split at h
    · exact nomatch h
    · split at h
      · cases h; exact ⟨show (4 : Nat) ≠ 3 by decide, show (4 : Nat) ≠ 0 by decide, rfl, rfl⟩
      · split at h
        · cases h; exact ⟨show (5 : Nat) ≠ 3 by decide, show (5 : Nat) ≠ 0 by decide, rfl, rfl⟩
        · split at h
          · cases h; exact ⟨show (6 : Nat) ≠ 3 by decide, show (6 : Nat) ≠ 0 by decide, rfl, rfl⟩
          · split at h
            · cases h; exact ⟨show (7 : Nat) ≠ 3 by decide, show (7 : Nat) ≠ 0 by decide, rfl, rfl⟩
            · split at h
              · exact nomatch h
              · split at h
                · cases h; exact ⟨show (8 : Nat) ≠ 3 by decide, show (8 : Nat) ≠ 0 by decide, rfl, rfl⟩
                · cases h; exact ⟨show (9 : Nat) ≠ 3 by decide, show (9 : Nat) ≠ 0 by decide, rfl, rfl⟩
theorem signGo_is (l : List UInt8) : ∀ n, 0 < signGo l n → isSignB (l.take (signGo l n)) = true
  | 0, h => absurd h (Nat.lt_irrefl _)
  | n + 1, h => by
    rw [signGo] at h ⊢
    split
    · assumption
    · rename_i hc
      rw [if_neg hc] at h
      exact signGo_is l n h
theorem plainS_inv {R R2 : Src} {term : Bool} {t : RTok} (h : plainS R term = some (t, R2)) : t.form = 0 ∧ t.opn = 0 ∧ t.place = place R ∧ (t.kind = 3 → t.raw = [36] ∨ t.raw = [64] → term = true) := by
  cases R with
  | nil => exact nomatch h
  | cons x R =>
    unfold plainS at h
    simp only at h
    split at h
    · split at h
      · cases h; exact ⟨rfl, rfl, rfl, fun e => absurd (show (0 : Nat) = 3 from e) (by decide)⟩
      · exact nomatch h
    · split at h
      · cases h; exact ⟨rfl, rfl, rfl, fun e => absurd (show (1 : Nat) = 3 from e) (by decide)⟩
      · split at h
        · rename_i hs
          cases h
          refine ⟨rfl, rfl, rfl, fun _ hr => ?_⟩
          by_cases hg : 0 < signN (byt (x :: R))
          · have hi := signGo_is (byt (x :: R)) _ hg
            have e : signS (byt (x :: R)) term = signN (byt (x :: R)) := by unfold signS; rw [if_pos hg]
            have hr' : (byt (x :: R)).take (signN (byt (x :: R))) = [36] ∨ (byt (x :: R)).take (signN (byt (x :: R))) = [64] := by rw [← e]; exact hr
            rcases hr' with hr' | hr'
            · have : isSignB [36] = true := by rw [← hr']; exact hi
              exact absurd this (by decide)
            · have : isSignB [64] = true := by rw [← hr']; exact hi
              exact absurd this (by decide)
          · unfold signS at hs
            rw [if_neg hg] at hs
            split at hs
            · rename_i hc; exact hc.1
            · exact absurd hs (Nat.lt_irrefl _)
        · exact nomatch h
/-- what holds of a token before it is told what brace it is -/
structure NInv (t : RTok) (R : Src) (term : Bool) : Prop where
  opn : t.opn = 0
  place : t.place = place R
  form : t.kind = 3 ∨ t.kind = 0 → t.form = 0
  sig : t.kind = 3 → t.raw = [36] ∨ t.raw = [64] → term = true
theorem next_inv {ref : Bool} {R R2 : Src} {term : Bool} {t : RTok} (h : nextS ref R term = some (t, R2)) : NInv t R term := by
  have hp : plainS R term = some (t, R2) → NInv t R term := fun h => by
    obtain ⟨h1, h2, h3, h4⟩ := plainS_inv h
    exact ⟨h2, h3, fun _ => h1, h4⟩
  unfold nextS at h
  split at h
  · rename_i ht
    split at h
    · obtain ⟨h1, h2, h3, h4⟩ := quoteS_inv h
      exact ⟨h3, h4, fun e => by omega, fun _ _ => ht⟩
    · split at h
      · rename_i n name more _
        cases hc : cutS name (R.drop n) with
        | none => rw [hc] at h; exact nomatch h
        | some r =>
          rw [hc] at h
          cases h
          refine ⟨rfl, rfl, fun e => ?_, fun _ _ => ht⟩
          exfalso
          cases more <;> simp at e
      · split at h
        · exact nomatch h
        · exact hp h
        · cases h; exact ⟨rfl, rfl, fun e => absurd (show (2 : Nat) = 3 ∨ (2 : Nat) = 0 from e) (by decide), fun _ _ => ht⟩
  · exact hp h
theorem brace_inv {t : RTok} {R : Src} {term : Bool} (h : NInv t R term) (rt : List RTok) (tms : List Bool) (near : Bool) (ops : List Nat) :
    RInv (braceS t rt tms near ops).1 term ∧ (braceS t rt tms near ops).1.kind = t.kind ∧ rend (braceS t rt tms near ops).1 = { rend0 t with place := place R, opn := (braceS t rt tms near ops).1.opn } := by
  have hsig : isSg t [36] = true ∨ isSg t [64] = true → term = true := fun e => by
    have hk : t.kind = 3 := by rcases e with e | e <;> (unfold isSg at e; simp at e; exact e.1)
    refine h.sig hk ?_
    rcases e with e | e <;> (unfold isSg at e; simp at e; simp [e.2])
  unfold braceS
  split
  · rename_i hb
    refine ⟨⟨fun e => h.form (.inl e), fun _ => .inl hb, hsig⟩, rfl, ?_⟩
    rw [← h.place]; rfl
  · split
    · rename_i hb
      refine ⟨⟨fun e => h.form (.inl e), fun _ => .inr hb, hsig⟩, rfl, ?_⟩
      rw [← h.place]; rfl
    · refine ⟨⟨fun e => h.form (.inl e), fun e => ?_, hsig⟩, rfl, ?_⟩
      · have e' : t.opn = 1 := e
        rw [h.opn] at e'; exact absurd e' (by decide)
      · rw [← h.place]; rfl
theorem behind_text {t : RTok} {R : Src} {term : Bool} (h : NInv t R term) (o : Int) (b : Bool) : behindB t.kind (textP t) o b = behindB t.kind t.raw o b := by
  by_cases hk : t.kind = 3 ∨ t.kind = 0
  · have : textP t = t.raw := by unfold textP; rw [if_pos (h.form hk)]
    rw [this]
  · unfold behindB
    have h0 : ¬ (t.kind : Int) = 0 := by omega
    have h3 : ¬ (t.kind : Int) = 3 := by omega
    rw [if_neg h0, if_neg h0, if_neg h3, if_neg h3]
end Go.Proofs.YthmopindibdhnaaDoor.G
