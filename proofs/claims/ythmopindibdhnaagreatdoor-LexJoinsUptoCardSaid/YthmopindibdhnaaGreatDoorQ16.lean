import Derived.Test.YthmopindibdhnaaGreatDoorQ00
import Derived.Test.YthmopindibdhnaaGreatDoorQ15
import Derived.Deep.RegionLaw
import Derived.Deep.Cut
namespace Go.Proofs.YthmopindibdhnaaGreatDoor.G
open Go.RowKit Go.Shelf Go.Maps
theorem read5g {w X w' : World} {P g base : Nat} {M : GoMap} {s : ByteArray} {a en : Nat} {tm : Bool} {tv bv ov v' : Value} {n n2 n3 : Nat} {xs ys zi zs : List Value} {o : Obj} {gc : Array Value} (SX : Sc X P M s a en tm tv bv ov) (hPb : P < base) (hMb : M.blk < base) (hbX : base ≤ X.heap.size) (FX : Fr P base w X)
  (OT : X.ownsRow base 42 6 tv n xs) (OB : X.ownsRow base 4 1 bv n2 ys) (OI : X.ownsRow base 3 1 ov n3 zi) (hgt : tv.ownBlock ≠ some g) (hgP : P ≠ g) (K : X.heap[g]? = some (.cells gc 42 (0, 0)))
  (h1 : w'.ownsRow base 42 6 v' (n + 1) zs) (h2 : (X.drew.alloc o).grownBy w' tv.ownBlock) :
  Sc (w'.setCell ⟨P, 4, none⟩ v') P M s a en tm v' bv ov ∧ (w'.setCell ⟨P, 4, none⟩ v').ownsRow base 42 6 v' (n + 1) zs ∧ (w'.setCell ⟨P, 4, none⟩ v').ownsRow base 4 1 bv n2 ys ∧ (w'.setCell ⟨P, 4, none⟩ v').ownsRow base 3 1 ov n3 zi ∧ (w'.setCell ⟨P, 4, none⟩ v').heap[g]? = some (.cells gc 42 (0, 0)) ∧ Fr P base w (w'.setCell ⟨P, 4, none⟩ v') := by
 have GX : Gr X (X.drew.alloc o) := ((Gr.refl X).drew).alloc o
 have hP1 : tv.ownBlock ≠ some P := own_apart OT (.inl hPb)
 have hM1 : tv.ownBlock ≠ some M.blk := own_apart OT (.inl hMb)
 have hP2 : some P ≠ v'.ownBlock := fun e => own_apart h1 (.inl hPb) e.symm
 have S1 := (SX.gr GX).grown h2 hP1 hM1
 have ob1 := own_beside (ownsRow_gr OB GX) (ownsRow_gr OT GX) (by decide) h2
 have oi1 := own_beside (ownsRow_gr OI GX) (ownsRow_gr OT GX) (by decide) h2
 have ob2 : some P ≠ bv.ownBlock := fun e => own_apart OB (.inl hPb) e.symm
 have oi2 : some P ≠ ov.ownBlock := fun e => own_apart OI (.inl hPb) e.symm
 have kg : w'.heap[g]? = some (.cells gc 42 (0, 0)) := by
  rw [h2.block _ (Nat.lt_of_lt_of_le (Ag K).1 GX.size) (fun e => hgt e.symm), GX.block _ (Ag K).1]; exact K
 have fr := Fr.but (Fr.grow (Fr.but FX (But.of_gr GX) hbX) h2 (Nat.le_trans hbX GX.size) (fun i e => (own_ge OT e).1)) (But.set (P := P) 4 v') (Nat.le_trans hbX (Nat.le_trans GX.size h2.size))
 exact ⟨S1.setTv v', own_set h1 hP2 4 v', own_set ob1 ob2 4 v', own_set oi1 oi2 4 v', by simp [World.setCell, Array.getElem?_modify, hgP, kg], fr⟩
theorem read6g {w X w' : World} {P g base : Nat} {M : GoMap} {s : ByteArray} {a en : Nat} {tm : Bool} {tv bv ov v' : Value} {n n2 n3 : Nat} {xs ys zi zs : List Value} {o : Obj} {gc : Array Value} (SX : Sc X P M s a en tm tv bv ov) (hPb : P < base) (hMb : M.blk < base) (hbX : base ≤ X.heap.size) (FX : Fr P base w X)
  (OT : X.ownsRow base 42 6 tv n xs) (OB : X.ownsRow base 4 1 bv n2 ys) (OI : X.ownsRow base 3 1 ov n3 zi) (hgP : P ≠ g) (K : X.heap[g]? = some (.cells gc 42 (0, 0)))
  (h1 : w'.ownsRow base 4 1 v' (n2 + 1) zs) (h2 : (X.drew.alloc o).grownBy w' bv.ownBlock) :
  Sc (w'.setCell ⟨P, 5, none⟩ v') P M s a en tm tv v' ov ∧ (w'.setCell ⟨P, 5, none⟩ v').ownsRow base 42 6 tv n xs ∧ (w'.setCell ⟨P, 5, none⟩ v').ownsRow base 4 1 v' (n2 + 1) zs ∧ (w'.setCell ⟨P, 5, none⟩ v').ownsRow base 3 1 ov n3 zi ∧ (w'.setCell ⟨P, 5, none⟩ v').heap[g]? = some (.cells gc 42 (0, 0)) ∧ Fr P base w (w'.setCell ⟨P, 5, none⟩ v') := by
 have GX : Gr X (X.drew.alloc o) := ((Gr.refl X).drew).alloc o
 have hP1 : bv.ownBlock ≠ some P := own_apart OB (.inl hPb)
 have hM1 : bv.ownBlock ≠ some M.blk := own_apart OB (.inl hMb)
 have hP2 : some P ≠ v'.ownBlock := fun e => own_apart h1 (.inl hPb) e.symm
 have S1 := (SX.gr GX).grown h2 hP1 hM1
 have ot1 := own_beside (ownsRow_gr OT GX) (ownsRow_gr OB GX) (by decide) h2
 have oi1 := own_beside (ownsRow_gr OI GX) (ownsRow_gr OB GX) (by decide) h2
 have ot2 : some P ≠ tv.ownBlock := fun e => own_apart OT (.inl hPb) e.symm
 have oi2 : some P ≠ ov.ownBlock := fun e => own_apart OI (.inl hPb) e.symm
 have hgt : bv.ownBlock ≠ some g := own_ty OB K (by decide)
 have kg : w'.heap[g]? = some (.cells gc 42 (0, 0)) := by
  rw [h2.block _ (Nat.lt_of_lt_of_le (Ag K).1 GX.size) (fun e => hgt e.symm), GX.block _ (Ag K).1]; exact K
 have fr := Fr.but (Fr.grow (Fr.but FX (But.of_gr GX) hbX) h2 (Nat.le_trans hbX GX.size) (fun i e => (own_ge OB e).1)) (But.set (P := P) 5 v') (Nat.le_trans hbX (Nat.le_trans GX.size h2.size))
 exact ⟨S1.setBv v', own_set ot1 ot2 5 v', own_set h1 hP2 5 v', own_set oi1 oi2 5 v', by simp [World.setCell, Array.getElem?_modify, hgP, kg], fr⟩
theorem read7g {w X w' : World} {P base j : Nat} {M : GoMap} {s : ByteArray} {a en : Nat} {tm : Bool} {tv bv ov u : Value} {n n2 n3 : Nat} {xs ys zi : List Value} (SX : Sc X P M s a en tm tv bv ov) (hPb : P < base) (hbX : base ≤ X.heap.size) (FX : Fr P base w X)
  (OT : X.ownsRow base 42 6 tv n xs) (OB : X.ownsRow base 4 1 bv n2 ys) (OI : X.ownsRow base 3 1 ov n3 zi) (GX : Gr X w') :
  Sc w' P M s a en tm tv bv ov ∧ (w'.setCell ⟨P, j, none⟩ u).ownsRow base 42 6 tv n xs ∧ (w'.setCell ⟨P, j, none⟩ u).ownsRow base 4 1 bv n2 ys ∧ (w'.setCell ⟨P, j, none⟩ u).ownsRow base 3 1 ov n3 zi ∧ Fr P base w (w'.setCell ⟨P, j, none⟩ u) := by
 have hP1 : some P ≠ tv.ownBlock := fun e => own_apart OT (.inl hPb) e.symm
 have hP2 : some P ≠ bv.ownBlock := fun e => own_apart OB (.inl hPb) e.symm
 have hP3 : some P ≠ ov.ownBlock := fun e => own_apart OI (.inl hPb) e.symm
 have fr := Fr.but (Fr.but FX (But.of_gr GX) hbX) (But.set (P := P) j u) (Nat.le_trans hbX GX.size)
 exact ⟨SX.gr GX, own_set (ownsRow_gr OT GX) hP1 j _, own_set (ownsRow_gr OB GX) hP2 j _, own_set (ownsRow_gr OI GX) hP3 j _, fr⟩
def KeepT (P : Nat) (w w' : World) : Prop := ∀ i gc, w.heap[i]? = some (.cells gc 42 (0, 0)) → i ≠ P → w.heap.size ≤ i + 1 → w'.heap[i]? = some (.cells gc 42 (0, 0))
variable {w w' : World} {P : Nat} {M : GoMap} {s : ByteArray} {at_ en : Nat} {tm : Bool} {tv bv ov : Value} {toks : List Tok} {terms : List Bool} {ops ops' : List Nat} {C : GoMap → Nat → Prop}
def TokH (w0 : World) (P : Nat) (M : GoMap) (s : ByteArray) (en : Nat) (tm : Bool) (tv bv ov : Value) (k : Int) (tx rp mo : ByteArray) (C : GoMap → Nat → Prop) : Prop :=
 ∀ W, Gr w0 W → Calls Tryz.prog 82 #[.pointer (some ⟨P, 0, none⟩)] W fun e w' => ∃ M' b, e = .returned (.agg #[.int .i64 k, .int .i64 0, .string tx, .string rp, .string mo, .int .i64 0]) ∧ Sc w' P M' s b en tm tv bv ov ∧ Bt P M.blk W w' ∧ M'.blk = M.blk ∧ C M' b
def BraH (w0 : World) (P base : Nat) (Mb : Nat) (s : ByteArray) (en : Nat) (tm : Bool) (tv bv ov : Value) (toks : List Tok) (terms : List Bool) (ops ops' : List Nat) (tx : ByteArray) (d : Bool) (op : Nat) : Prop :=
 ∀ W (M' : GoMap) b, M'.blk = Mb → w0.heap.size ≤ W.heap.size → Sc W P M' s b en tm tv bv ov → Rows3 W base tv bv ov toks terms ops → Calls Tryz.prog 83 #[.pointer (some ⟨P, 0, none⟩), .string tx, .bool d] W fun e w' => e = .returned (.int .i64 (op : Int)) ∧ Fr P base W w' ∧ KeepT P W w' ∧ ∃ ov', Sc w' P M' s b en tm tv bv ov' ∧ Rows3 w' base tv bv ov' toks terms ops'
structure Fr2 (P Mb base : Nat) (w w' : World) : Prop where
 os : w'.os = w.os
 tape : w'.tape = w.tape
 output : w'.output = w.output
 size : w.heap.size ≤ w'.heap.size
 block : ∀ k, k < base → k ≠ P → k ≠ Mb → w'.heap[k]? = w.heap[k]?
theorem Fr2.of_bt {Mb base : Nat} (k : Bt P Mb w w') (hb : base ≤ w.heap.size) : Fr2 P Mb base w w' := ⟨k.os, k.tape, k.output, k.size, fun i h1 h2 h3 => k.block i (by omega) h2 h3⟩
theorem Fr2.fr {Mb base : Nat} {a b c : World} (h : Fr2 P Mb base a b) (k : Fr P base b c) : Fr2 P Mb base a c :=
 ⟨k.os.trans h.os, k.tape.trans h.tape, k.output.trans h.output, Nat.le_trans h.size k.size, fun i h1 h2 h3 => (k.block i h1 h2).trans (h.block i h1 h2 h3)⟩
set_option maxRecDepth 100000 in
set_option maxHeartbeats 4000000 in
theorem read_n {base : Nat} {k : Int} {tx rp mo : ByteArray} (h : Sc w P M s at_ en tm tv bv ov) (hR : Rows3 w base tv bv ov toks terms ops) (hPb : P < base) (hMb : M.blk < base) (hbw : base ≤ w.heap.size)
  (hT : TokH w P M s en tm tv bv ov k tx rp mo C) (hn : toks.length ≤ 4000 ∧ terms.length ≤ 4000) (hk : k ≠ 3) :
  Calls Tryz.prog 60 #[.pointer (some ⟨P, 0, none⟩)] w fun e w' => e = .returned (.tuple #[]) ∧ ∃ M' b tv' bv' ov', Sc w' P M' s b b (behindB k tx.data.toList 0 tm) tv' bv' ov' ∧ Rows3 w' base tv' bv' ov' (toks ++ [⟨k, at_, tx, rp, mo, 0⟩]) (terms ++ [tm]) ops ∧ Fr2 P M.blk base w w' ∧ M'.blk = M.blk ∧ C M' b := by
 have H := Lh h
 have HT := Lh hT
 unfold TokH at HT
 have HRw := Lh hR
 obtain ⟨c0, c1, c2, c3, c4, c5, c6, c7, cf⟩ := h.cells
 have HH := Lh (fun w => behind_p k (at_ : Int) tx rp mo 0 tm w)
 have hkb : (k == 3) = false := by simpa using hk
 obtain ⟨ops', hops⟩ : ∃ ops', ops' = ops := ⟨_, rfl⟩
 rw [← hops] at HRw ⊢
 obtain ⟨ov', hov⟩ : ∃ ov', ov' = ov := ⟨_, rfl⟩
 clear h hT hR hk
 go_enter Tryz.func60, Tryz.ntmps60
 go_wp2_with fail
 go_quiet (fail)
 clear c0 c1 c2 c3 c4 c5 c6 c7 cf
 go_wp2_with fail
 refine (HT.out _ ((Gr.refl w).drewN _)).mono ?_
 rintro e w2 ⟨M', b, rfl, hS2, hb2, hM2, hC2⟩
 have S2 := Lh hS2
 have B2 := Lh ((Bt.of_gr (A := P) (B := M.blk) ((Gr.refl w).drewN nq)).trans hb2)
 have HM := Lh hM2
 have HC := Lh hC2
 have R2 := Lh (HRw.out.bt B2.out hPb hMb)
 have hw2s : w.heap.size ≤ w2.heap.size := B2.out.size
 have hMb' : M'.blk < base := by rw [hM2]; exact hMb
 have hgt : tv.ownBlock ≠ some w2.heap.size := own_apart R2.out.t (.inr (Nat.le_refl _))
 clear hS2 hb2 hM2 hC2 HT
 rw [← hov] at S2 R2
 go_wp2_with fail
 generalize hX : w2.alloc (.cells #[.int .i64 k, .int .i64 (at_ : Int), .string tx, .string rp, .string mo, .int .i64 0] 42) = X
 have GX : Gr w2 X := by rw [← hX]; exact (Gr.refl w2).alloc _
 have SX := Lh (S2.out.gr GX)
 have RX := Lh (R2.out.gr GX)
 have F2 := Lh (Fr2.fr (Fr2.of_bt B2.out hbw) (Fr.of_but (P := P) (But.of_gr GX) (by omega)))
 have hXs : Hid (base ≤ X.heap.size) := Lh (by have := GX.size; omega)
 obtain ⟨g, hg⟩ : ∃ g, g = w2.heap.size := ⟨_, rfl⟩
 have KX : Hid (X.heap[g]? = some (.cells #[.int .i64 k, .int .i64 (at_ : Int), .string tx, .string rp, .string mo, .int .i64 0] 42 (0, 0))) := Lh (by rw [← hX, hg]; exact heap_alloc_new w2 _)
 rw [← hg] at hgt ⊢
 have hgP : P ≠ g := by omega
 clear hX GX S2 R2 B2 hops hov hg hw2s
 obtain ⟨kc, kf⟩ := cellsOf KX.out
 have t0 := kc 0
 have t1 := kc 1
 have t2 := kc 2
 have t3 := kc 3
 have t4 := kc 4
 have t5 := kc 5
 simp at t0 t1 t2 t3 t4 t5
 clear kc
 obtain ⟨c0, c1, c2, c3, c4, c5, c6, c7, cf⟩ := SX.out.cells
 obtain ⟨_, _, _, b3, b4, b5, _, _, _⟩ := (SX.out.gr ((Gr.refl X).alloc (.cells #[.int .i64 k, .int .i64 (at_ : Int), .string tx, .string rp, .string mo, .int .i64 0] 42))).cells
 obtain ⟨ti, hti, htz, hts, htb⟩ := info_parts infoTok
 obtain ⟨bi, hbi, hbz, hbs, hbb⟩ := info_parts infoBool
 go_cut [] from 31 (fun wx => ∃ tv', Sc wx P M' s b en tm tv' bv ov' ∧ wx.ownsRow base 42 6 tv' (toks.length + 1) (cellsT toks ++ #[.int .i64 k, .int .i64 (at_ : Int), .string tx, .string rp, .string mo, .int .i64 0].toList) ∧ OwnB wx base bv terms ∧ OwnI wx base ov' ops' ∧ wx.heap[g]? = some (.cells #[.int .i64 k, .int .i64 (at_ : Int), .string tx, .string rp, .string mo, .int .i64 0] 42 (0, 0)) ∧ Fr P base X wx)
 case first =>
  go_region_law (refine step_of rfl (wp_append_own _ (.tmp 35) (.tmp 37) 28 rfl base 42 ti (.agg #[.int .i64 0, .int .i64 0, .string ⟨#[]⟩, .string ⟨#[]⟩, .string ⟨#[]⟩, .int .i64 0]) 6 72 Tryz.underlying28 hti htz hts htb rfl (by decide) _ _ _ rfl (ownsRow_gr RX.out.t (((Gr.refl X).drew).alloc _)) ⟨X.heap.size, 0, none⟩ 1 1 #[.int .i64 k, .int .i64 (at_ : Int), .string tx, .string rp, .string mo, .int .i64 0].toList rfl rfl (fun j u hj => newCellsAt (by simp) hj) (by simp [Value.oneCell']) (by unfold maxLen; omega) (by omega) (by have := hXs.out; simp; omega) fun v' w' h1 h2 _ => ?_); obtain ⟨ao, cap, rfl⟩ := ownsRow_shape h1; have HR5 := Lh (read5g SX.out hPb hMb' hXs.out (Fr.refl P base X) RX.out.t RX.out.b RX.out.o hgt hgP KX.out h1 h2); obtain ⟨_, _, _, _, d4, _, _, _, df⟩ := ((SX.out.gr (((Gr.refl X).drew).alloc _)).grown h2 (own_apart RX.out.t (.inl hPb)) (own_apart RX.out.t (.inl hMb'))).cells; clear h1 h2)
  all_goals
   go_wp2_with fail
   go_meet
   obtain ⟨a1, a2, a3, a4, a5, a6⟩ := HR5.out
   exact ⟨_, a1, a2, a3, a4, a5, a6⟩
 case rest =>
 obtain ⟨tv', d1, d2, d3, d4, d5, d6⟩ := hcut
 have SW := Lh d1
 have TW := Lh d2
 have BW := Lh d3
 have IW := Lh d4
 have KW := Lh d5
 have FW := Lh d6
 clear d1 d2 d3 d4 d5 d6 KX SX t0 t1 t2 t3 t4 t5 kf c0 c1 c2 c3 c4 c5 c6 c7 cf b3 b4 b5
 obtain ⟨c0, c1, c2, c3, c4, c5, c6, c7, cf⟩ := SW.out.cells
 obtain ⟨_, _, _, b3, b4, b5, _, _, _⟩ := (SW.out.gr ((Gr.refl wc).alloc (.cells #[.bool tm] 4))).cells
 have hwcs : Hid (base ≤ wc.heap.size) := Lh (by have := FW.out.size; have := hXs.out; omega)
 go_wp2_with fail
 go_cut [] from 41 (fun wx => ∃ bv', Sc wx P M' s b en tm tv' bv' ov' ∧ wx.ownsRow base 42 6 tv' (toks.length + 1) (cellsT toks ++ #[.int .i64 k, .int .i64 (at_ : Int), .string tx, .string rp, .string mo, .int .i64 0].toList) ∧ wx.ownsRow base 4 1 bv' (terms.length + 1) (terms.map Value.bool ++ [.bool tm]) ∧ OwnI wx base ov' ops' ∧ wx.heap[g]? = some (.cells #[.int .i64 k, .int .i64 (at_ : Int), .string tx, .string rp, .string mo, .int .i64 0] 42 (0, 0)) ∧ Fr P base X wx)
 case first =>
  go_region_law (refine step_of rfl (wp_append_own _ (.tmp 45) (.tmp 50) 24 rfl base 4 bi (.bool false) 1 1 Tryz.underlying24 hbi hbz hbs hbb rfl (by decide) _ _ _ rfl (ownsRow_gr BW.out (((Gr.refl wc).drew).alloc _)) ⟨wc.heap.size, 0, none⟩ 1 1 [.bool tm] rfl rfl (fun j u hj => newCellsAt (by simp) hj) (by simp [Value.oneCell']) (by unfold maxLen; omega) (by omega) (by have := hwcs.out; simp; omega) fun v' w' h1 h2 _ => ?_); obtain ⟨ao, cap, rfl⟩ := ownsRow_shape h1; have HR6 := Lh (read6g SW.out hPb hMb' hwcs.out FW.out TW.out BW.out IW.out hgP KW.out h1 h2); obtain ⟨_, _, _, _, _, d5, _, _, df⟩ := ((SW.out.gr (((Gr.refl wc).drew).alloc _)).grown h2 (own_apart BW.out (.inl hPb)) (own_apart BW.out (.inl hMb'))).cells; clear h1 h2)
  all_goals
   go_wp2_with fail
   go_meet
   obtain ⟨a1, a2, a3, a4, a5, a6⟩ := HR6.out
   exact ⟨_, a1, a2, a3, a4, a5, a6⟩
 case rest =>
 obtain ⟨bv', d1, d2, d3, d4, d5, d6⟩ := hcut
 clear SW TW BW IW KW FW c0 c1 c2 c3 c4 c5 c6 c7 cf b3 b4 b5 hwcs
 have SW := Lh d1
 have TW := Lh d2
 have BW := Lh d3
 have IW := Lh d4
 have KW := Lh d5
 have FW := Lh d6
 clear d1 d2 d3 d4 d5 d6
 have hwcs : Hid (base ≤ wc.heap.size) := Lh (by have := FW.out.size; have := hXs.out; omega)
 obtain ⟨c0, c1, c2, c3, c4, c5, c6, c7, cf⟩ := SW.out.cells
 obtain ⟨kc, _⟩ := cellsOf KW.out
 have t0 := kc 0
 have t1 := kc 1
 have t2 := kc 2
 have t3 := kc 3
 have t4 := kc 4
 have t5 := kc 5
 simp at t0 t1 t2 t3 t4 t5
 clear kc
 go_wp2_with fail
 go_cut [] from 51 (fun wx => Sc wx P M' s b en (behindB k tx.data.toList 0 tm) tv' bv' ov' ∧ wx.ownsRow base 42 6 tv' (toks.length + 1) (cellsT toks ++ #[.int .i64 k, .int .i64 (at_ : Int), .string tx, .string rp, .string mo, .int .i64 0].toList) ∧ wx.ownsRow base 4 1 bv' (terms.length + 1) (terms.map Value.bool ++ [.bool tm]) ∧ OwnI wx base ov' ops' ∧ Fr P base X wx)
 case first =>
  go_region_with (go_at_call 44; refine (HH.out _).mono ?_; rintro e9 w9 ⟨rfl, g9⟩; have G9 := Lh g9; clear g9; have S9 := Lh ((SW.out.gr ((Gr.refl _).drew)).gr G9.out); obtain ⟨_, _, _, d3, _, _, _, _, df⟩ := S9.out.cells)
  all_goals
   go_wp2_with fail
   go_meet
   obtain ⟨a1, a2, a3, a4, a5⟩ := read7g (j := 3) (u := .bool (behindB k tx.data.toList 0 tm)) SW.out hPb hwcs.out FW.out TW.out BW.out IW.out (((Gr.refl _).drew).trans G9.out)
   exact ⟨a1.setTm _, a2, a3, a4, a5⟩
 case rest =>
 clear SW TW BW IW KW FW c0 c1 c2 c3 c4 c5 c6 c7 cf t0 t1 t2 t3 t4 t5 hwcs
 obtain ⟨d1, d2, d3, d4, d5⟩ := hcut
 have SW := Lh d1
 have TW := Lh d2
 have BW := Lh d3
 have IW := Lh d4
 have FW := Lh d5
 clear d1 d2 d3 d4 d5
 obtain ⟨c0, c1, c2, c3, c4, c5, c6, c7, cf⟩ := SW.out.cells
 go_wp2_with fail
 go_end0
 obtain ⟨a1, a2, a3, a4, a5⟩ := read7g (j := 2) (u := .int .i64 (b : Int)) SW.out hPb (by have := FW.out.size; have := hXs.out; omega) FW.out TW.out BW.out IW.out (Gr.refl _)
 refine ⟨rfl, M', b, tv', bv', ov', a1.setEn b, ⟨?_, ?_, a4⟩, Fr2.fr F2.out a5, HM.out, HC.out⟩
 ·have e1 : (toks ++ [(⟨k, at_, tx, rp, mo, 0⟩ : Tok)]).length = toks.length + 1 := by simp
  have e2 : cellsT (toks ++ [(⟨k, at_, tx, rp, mo, 0⟩ : Tok)]) = cellsT toks ++ #[.int .i64 k, .int .i64 (at_ : Int), .string tx, .string rp, .string mo, .int .i64 0].toList := by rw [cellsT_app]; rfl
  show World.ownsRow _ _ _ _ _ _ _
  rw [e1, e2]
  exact a2
 ·have e1 : (terms ++ [tm]).length = terms.length + 1 := by simp
  have e2 : (terms ++ [tm]).map Value.bool = terms.map Value.bool ++ [.bool tm] := by simp
  show World.ownsRow _ _ _ _ _ _ _
  rw [e1, e2]
  exact a3
set_option maxRecDepth 100000 in
set_option maxHeartbeats 4000000 in
theorem read_s {base : Nat} {tx rp mo : ByteArray} (h : Sc w P M s at_ en tm tv bv ov) (hR : Rows3 w base tv bv ov toks terms ops) (hPb : P < base) (hMb : M.blk < base) (hbw : base ≤ w.heap.size)
  (hT : TokH w P M s en tm tv bv ov 3 tx rp mo C) (hn : toks.length ≤ 4000 ∧ terms.length ≤ 4000) (op : Nat) (hB : BraH w P base M.blk s en tm tv bv ov toks terms ops ops' tx (decide (at_ = en)) op) :
  Calls Tryz.prog 60 #[.pointer (some ⟨P, 0, none⟩)] w fun e w' => e = .returned (.tuple #[]) ∧ ∃ M' b tv' bv' ov', Sc w' P M' s b b (behindB 3 tx.data.toList (op : Int) tm) tv' bv' ov' ∧ Rows3 w' base tv' bv' ov' (toks ++ [⟨3, at_, tx, rp, mo, (op : Int)⟩]) (terms ++ [tm]) ops' ∧ Fr2 P M.blk base w w' ∧ M'.blk = M.blk ∧ C M' b := by
 have H := Lh h
 have HT := Lh hT
 unfold TokH at HT
 have HRw := Lh hR
 obtain ⟨c0, c1, c2, c3, c4, c5, c6, c7, cf⟩ := h.cells
 have HH := Lh (fun w => behind_p 3 (at_ : Int) tx rp mo (op : Int) tm w)
 have HB := Lh hB
 unfold BraH at HB
 have hd : ((at_ : Int) == (en : Int)) = decide (at_ = en) := by
  by_cases e : at_ = en
  ·subst e; simp
  ·have : ((at_ : Int) == (en : Int)) = false := by simp; omega
   rw [this]; simp [e]
 generalize decide (at_ = en) = d at *
 clear h hT hR hB
 go_enter Tryz.func60, Tryz.ntmps60
 go_wp2_with fail
 go_quiet (fail)
 clear c0 c1 c2 c3 c4 c5 c6 c7 cf
 go_wp2_with fail
 refine (HT.out _ ((Gr.refl w).drewN _)).mono ?_
 rintro e w2 ⟨M', b, rfl, hS2, hb2, hM2, hC2⟩
 have S2 := Lh hS2
 have B2 := Lh ((Bt.of_gr (A := P) (B := M.blk) ((Gr.refl w).drewN nq)).trans hb2)
 have HM := Lh hM2
 have HC := Lh hC2
 have R2 := Lh (HRw.out.bt B2.out hPb hMb)
 have hw2s : w.heap.size ≤ w2.heap.size := B2.out.size
 have hMb' : M'.blk < base := by rw [hM2]; exact hMb
 have hgt : tv.ownBlock ≠ some w2.heap.size := own_apart R2.out.t (.inr (Nat.le_refl _))
 clear hS2 hb2 hM2 hC2 HT
 go_wp2_with fail
 generalize hX : w2.alloc (.cells #[.int .i64 3, .int .i64 (at_ : Int), .string tx, .string rp, .string mo, .int .i64 0] 42) = X0
 have GX0 : Gr w2 X0 := by rw [← hX]; exact (Gr.refl w2).alloc _
 obtain ⟨g, hg⟩ : ∃ g, g = w2.heap.size := ⟨_, rfl⟩
 have K0 : Hid (X0.heap[g]? = some (.cells #[.int .i64 3, .int .i64 (at_ : Int), .string tx, .string rp, .string mo, .int .i64 0] 42 (0, 0))) := Lh (by rw [← hX, hg]; exact heap_alloc_new w2 _)
 have hX0s : X0.heap.size = w2.heap.size + 1 := by rw [← hX]; simp
 have S0 := Lh (S2.out.gr GX0)
 have R0 := Lh (R2.out.gr GX0)
 have F0 := Lh (Fr2.fr (Fr2.of_bt B2.out hbw) (Fr.of_but (P := P) (But.of_gr GX0) (by omega)))
 rw [← hg] at hgt ⊢
 have hgP : P ≠ g := by omega
 have hgb : base ≤ g := by omega
 refine (HB.out _ M' b HM.out (by omega) S0.out R0.out).mono ?_
 rintro e w3 ⟨rfl, hF3, hk3, ov', hS3, hR3⟩
 have K3 := Lh (hk3 g _ K0.out (by omega) (by omega))
 have S3 := Lh hS3
 have R3 := Lh hR3
 have F3 := Lh (Fr2.fr F0.out hF3)
 have hw3s : Hid (base ≤ w3.heap.size) := Lh (by have := hF3.size; omega)
 clear hF3 hk3 hS3 hR3 hX GX0 S2 R2 B2 hg hw2s S0 R0 F0 K0 hX0s HB
 obtain ⟨kc, kf⟩ := cellsOf K3.out
 have t5 := kc 5
 simp at t5
 clear kc
 go_wp2_with fail
 obtain ⟨X, hX⟩ : ∃ X, X = w3.setCell ⟨g, 5, none⟩ (.int .i64 (op : Int)) := ⟨_, rfl⟩
 rw [← hX]
 have BS : But g w3 X := by rw [hX]; exact But.set 5 _
 have SX := Lh (S3.out.but BS hgP (by omega))
 have RX : Hid (Rows3 X base tv bv ov' toks terms ops') := Lh (by rw [hX]; exact ⟨own_set R3.out.t (fun e => hgt e.symm) 5 _, own_set R3.out.b (fun e => own_ty R3.out.b K3.out (by decide) e.symm) 5 _, own_set R3.out.o (fun e => own_ty R3.out.o K3.out (by decide) e.symm) 5 _⟩)
 have F2 : Hid (Fr2 P M.blk base w X) := Lh (Fr2.fr F3.out ⟨BS.os, BS.tape, BS.output, BS.size, fun i h1 h2 => BS.block i (by have := hw3s.out; omega) (fun e => by injection e with e; omega)⟩)
 have hXs : Hid (base ≤ X.heap.size) := Lh (by have := hw3s.out; have := BS.size; omega)
 have KX : Hid (X.heap[g]? = some (.cells #[.int .i64 3, .int .i64 (at_ : Int), .string tx, .string rp, .string mo, .int .i64 (op : Int)] 42 (0, 0))) := Lh (by
  have := K3.out
  rw [hX]
  simp [World.setCell, Array.getElem?_modify, this])
 clear hX BS S3 R3 F3 K3 hw3s t5 kf
 obtain ⟨kc, kf⟩ := cellsOf KX.out
 have t0 := kc 0
 have t1 := kc 1
 have t2 := kc 2
 have t3 := kc 3
 have t4 := kc 4
 have t5 := kc 5
 simp at t0 t1 t2 t3 t4 t5
 clear kc
 obtain ⟨c0, c1, c2, c3, c4, c5, c6, c7, cf⟩ := SX.out.cells
 obtain ⟨_, _, _, b3, b4, b5, _, _, _⟩ := (SX.out.gr ((Gr.refl X).alloc (.cells #[.int .i64 3, .int .i64 (at_ : Int), .string tx, .string rp, .string mo, .int .i64 (op : Int)] 42))).cells
 obtain ⟨ti, hti, htz, hts, htb⟩ := info_parts infoTok
 obtain ⟨bi, hbi, hbz, hbs, hbb⟩ := info_parts infoBool
 go_cut [] from 31 (fun wx => ∃ tv', Sc wx P M' s b en tm tv' bv ov' ∧ wx.ownsRow base 42 6 tv' (toks.length + 1) (cellsT toks ++ #[.int .i64 3, .int .i64 (at_ : Int), .string tx, .string rp, .string mo, .int .i64 (op : Int)].toList) ∧ OwnB wx base bv terms ∧ OwnI wx base ov' ops' ∧ wx.heap[g]? = some (.cells #[.int .i64 3, .int .i64 (at_ : Int), .string tx, .string rp, .string mo, .int .i64 (op : Int)] 42 (0, 0)) ∧ Fr P base X wx)
 case first =>
  go_region_law (refine step_of rfl (wp_append_own _ (.tmp 35) (.tmp 37) 28 rfl base 42 ti (.agg #[.int .i64 0, .int .i64 0, .string ⟨#[]⟩, .string ⟨#[]⟩, .string ⟨#[]⟩, .int .i64 0]) 6 72 Tryz.underlying28 hti htz hts htb rfl (by decide) _ _ _ rfl (ownsRow_gr RX.out.t (((Gr.refl X).drew).alloc _)) ⟨X.heap.size, 0, none⟩ 1 1 #[.int .i64 3, .int .i64 (at_ : Int), .string tx, .string rp, .string mo, .int .i64 (op : Int)].toList rfl rfl (fun j u hj => newCellsAt (by simp) hj) (by simp [Value.oneCell']) (by unfold maxLen; omega) (by omega) (by have := hXs.out; simp; omega) fun v' w' h1 h2 _ => ?_); obtain ⟨ao, cap, rfl⟩ := ownsRow_shape h1; have HR5 := Lh (read5g SX.out hPb hMb' hXs.out (Fr.refl P base X) RX.out.t RX.out.b RX.out.o hgt hgP KX.out h1 h2); obtain ⟨_, _, _, _, d4, _, _, _, df⟩ := ((SX.out.gr (((Gr.refl X).drew).alloc _)).grown h2 (own_apart RX.out.t (.inl hPb)) (own_apart RX.out.t (.inl hMb'))).cells; clear h1 h2)
  all_goals
   go_wp2_with fail
   go_meet
   obtain ⟨a1, a2, a3, a4, a5, a6⟩ := HR5.out
   exact ⟨_, a1, a2, a3, a4, a5, a6⟩
 case rest =>
 obtain ⟨tv', d1, d2, d3, d4, d5, d6⟩ := hcut
 have SW := Lh d1
 have TW := Lh d2
 have BW := Lh d3
 have IW := Lh d4
 have KW := Lh d5
 have FW := Lh d6
 clear d1 d2 d3 d4 d5 d6 KX SX t0 t1 t2 t3 t4 t5 kf c0 c1 c2 c3 c4 c5 c6 c7 cf b3 b4 b5
 obtain ⟨c0, c1, c2, c3, c4, c5, c6, c7, cf⟩ := SW.out.cells
 obtain ⟨_, _, _, b3, b4, b5, _, _, _⟩ := (SW.out.gr ((Gr.refl wc).alloc (.cells #[.bool tm] 4))).cells
 have hwcs : Hid (base ≤ wc.heap.size) := Lh (by have := FW.out.size; have := hXs.out; omega)
 go_wp2_with fail
 go_cut [] from 41 (fun wx => ∃ bv', Sc wx P M' s b en tm tv' bv' ov' ∧ wx.ownsRow base 42 6 tv' (toks.length + 1) (cellsT toks ++ #[.int .i64 3, .int .i64 (at_ : Int), .string tx, .string rp, .string mo, .int .i64 (op : Int)].toList) ∧ wx.ownsRow base 4 1 bv' (terms.length + 1) (terms.map Value.bool ++ [.bool tm]) ∧ OwnI wx base ov' ops' ∧ wx.heap[g]? = some (.cells #[.int .i64 3, .int .i64 (at_ : Int), .string tx, .string rp, .string mo, .int .i64 (op : Int)] 42 (0, 0)) ∧ Fr P base X wx)
 case first =>
  go_region_law (refine step_of rfl (wp_append_own _ (.tmp 45) (.tmp 50) 24 rfl base 4 bi (.bool false) 1 1 Tryz.underlying24 hbi hbz hbs hbb rfl (by decide) _ _ _ rfl (ownsRow_gr BW.out (((Gr.refl wc).drew).alloc _)) ⟨wc.heap.size, 0, none⟩ 1 1 [.bool tm] rfl rfl (fun j u hj => newCellsAt (by simp) hj) (by simp [Value.oneCell']) (by unfold maxLen; omega) (by omega) (by have := hwcs.out; simp; omega) fun v' w' h1 h2 _ => ?_); obtain ⟨ao, cap, rfl⟩ := ownsRow_shape h1; have HR6 := Lh (read6g SW.out hPb hMb' hwcs.out FW.out TW.out BW.out IW.out hgP KW.out h1 h2); obtain ⟨_, _, _, _, _, d5, _, _, df⟩ := ((SW.out.gr (((Gr.refl wc).drew).alloc _)).grown h2 (own_apart BW.out (.inl hPb)) (own_apart BW.out (.inl hMb'))).cells; clear h1 h2)
  all_goals
   go_wp2_with fail
   go_meet
   obtain ⟨a1, a2, a3, a4, a5, a6⟩ := HR6.out
   exact ⟨_, a1, a2, a3, a4, a5, a6⟩
 case rest =>
 obtain ⟨bv', d1, d2, d3, d4, d5, d6⟩ := hcut
 clear SW TW BW IW KW FW c0 c1 c2 c3 c4 c5 c6 c7 cf b3 b4 b5 hwcs
 have SW := Lh d1
 have TW := Lh d2
 have BW := Lh d3
 have IW := Lh d4
 have KW := Lh d5
 have FW := Lh d6
 clear d1 d2 d3 d4 d5 d6
 have hwcs : Hid (base ≤ wc.heap.size) := Lh (by have := FW.out.size; have := hXs.out; omega)
 obtain ⟨c0, c1, c2, c3, c4, c5, c6, c7, cf⟩ := SW.out.cells
 obtain ⟨kc, _⟩ := cellsOf KW.out
 have t0 := kc 0
 have t1 := kc 1
 have t2 := kc 2
 have t3 := kc 3
 have t4 := kc 4
 have t5 := kc 5
 simp at t0 t1 t2 t3 t4 t5
 clear kc
 go_wp2_with fail
 go_cut [] from 51 (fun wx => Sc wx P M' s b en (behindB 3 tx.data.toList (op : Int) tm) tv' bv' ov' ∧ wx.ownsRow base 42 6 tv' (toks.length + 1) (cellsT toks ++ #[.int .i64 3, .int .i64 (at_ : Int), .string tx, .string rp, .string mo, .int .i64 (op : Int)].toList) ∧ wx.ownsRow base 4 1 bv' (terms.length + 1) (terms.map Value.bool ++ [.bool tm]) ∧ OwnI wx base ov' ops' ∧ Fr P base X wx)
 case first =>
  go_region_with (go_at_call 44; refine (HH.out _).mono ?_; rintro e9 w9 ⟨rfl, g9⟩; have G9 := Lh g9; clear g9; have S9 := Lh ((SW.out.gr ((Gr.refl _).drew)).gr G9.out); obtain ⟨_, _, _, d3, _, _, _, _, df⟩ := S9.out.cells)
  all_goals
   go_wp2_with fail
   go_meet
   obtain ⟨a1, a2, a3, a4, a5⟩ := read7g (j := 3) (u := .bool (behindB 3 tx.data.toList (op : Int) tm)) SW.out hPb hwcs.out FW.out TW.out BW.out IW.out (((Gr.refl _).drew).trans G9.out)
   exact ⟨a1.setTm _, a2, a3, a4, a5⟩
 case rest =>
 clear SW TW BW IW KW FW c0 c1 c2 c3 c4 c5 c6 c7 cf t0 t1 t2 t3 t4 t5 hwcs
 obtain ⟨d1, d2, d3, d4, d5⟩ := hcut
 have SW := Lh d1
 have TW := Lh d2
 have BW := Lh d3
 have IW := Lh d4
 have FW := Lh d5
 clear d1 d2 d3 d4 d5
 obtain ⟨c0, c1, c2, c3, c4, c5, c6, c7, cf⟩ := SW.out.cells
 go_wp2_with fail
 go_end0
 obtain ⟨a1, a2, a3, a4, a5⟩ := read7g (j := 2) (u := .int .i64 (b : Int)) SW.out hPb (by have := FW.out.size; have := hXs.out; omega) FW.out TW.out BW.out IW.out (Gr.refl _)
 refine ⟨rfl, M', b, tv', bv', ov', a1.setEn b, ⟨?_, ?_, a4⟩, Fr2.fr F2.out a5, HM.out, HC.out⟩
 ·have e1 : (toks ++ [(⟨3, at_, tx, rp, mo, (op : Int)⟩ : Tok)]).length = toks.length + 1 := by simp
  have e2 : cellsT (toks ++ [(⟨3, at_, tx, rp, mo, (op : Int)⟩ : Tok)]) = cellsT toks ++ #[.int .i64 3, .int .i64 (at_ : Int), .string tx, .string rp, .string mo, .int .i64 (op : Int)].toList := by rw [cellsT_app]; rfl
  show World.ownsRow _ _ _ _ _ _ _
  rw [e1, e2]
  exact a2
 ·have e1 : (terms ++ [tm]).length = terms.length + 1 := by simp
  have e2 : (terms ++ [tm]).map Value.bool = terms.map Value.bool ++ [.bool tm] := by simp
  show World.ownsRow _ _ _ _ _ _ _
  rw [e1, e2]
  exact a3
set_option maxRecDepth 100000 in
theorem read_bad (h : Sc w P M s at_ en tm tv bv ov) (hT : ∀ W, Gr w W → Calls Tryz.prog 82 #[.pointer (some ⟨P, 0, none⟩)] W fun e w' => Bad s e ∧ Bt P M.blk W w') :
  Calls Tryz.prog 60 #[.pointer (some ⟨P, 0, none⟩)] w fun e w' => Bad s e ∧ Bt P M.blk w w' := by
 have HT := Lh hT
 obtain ⟨c0, c1, c2, c3, c4, c5, c6, c7, cf⟩ := h.cells
 clear h hT
 go_enter Tryz.func60, Tryz.ntmps60
 go_wp2_with fail
 go_quiet (fail)
 clear c0 c1 c2 c3 c4 c5 c6 c7 cf
 go_wp2_with fail
 refine (HT.out _ ((Gr.refl w).drewN _)).mono ?_
 rintro e w2 ⟨⟨q, hq, rfl⟩, hb2⟩
 go_wp2_with fail
 exact ⟨rfl, ⟨q, hq, rfl⟩, (Bt.of_gr ((Gr.refl w).drewN _)).trans hb2⟩
end Go.Proofs.YthmopindibdhnaaGreatDoor.G
