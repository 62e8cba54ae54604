import Derived.Test.YthmopindibdhnaaGreatDoorQ00
import Derived.Test.YthmopindibdhnaaGreatDoorQ11
namespace Go.Proofs.YthmopindibdhnaaGreatDoor.G
open Go.RowKit Go.Shelf Go.Maps
theorem idx_line (X : List UInt8) : Lib.indexByte X 10 = if (X.takeWhile (fun c => c != 10)).length < X.length then ((X.takeWhile (fun c => c != 10)).length : Int) else -1 := by
 induction X with
 | nil => rfl
 | cons x t ih =>
  rw [Lib.indexByte, List.takeWhile_cons]
  by_cases h : x = 10
  ·subst h; rfl
  ·have h1 : (x == 10) = false := by simpa using h
   have h2 : (x != 10) = true := by simpa using h
   by_cases h3 : (t.takeWhile (fun c => c != 10)).length < t.length
   ·rw [if_pos h3] at ih
    rw [h1, h2, ih]
    simp only [Bool.false_eq_true, if_false, if_true, List.length_cons]
    rw [if_neg (by simp), if_pos (by omega)]
    omega
   ·rw [if_neg h3] at ih
    rw [h1, h2, ih]
    simp only [Bool.false_eq_true, if_false, if_true, List.length_cons]
    rw [if_pos (by decide), if_neg (by omega)]
theorem split_line (X : List UInt8) : splitC 10 X = if (X.takeWhile (fun c => c != 10)).length < X.length then some (X.takeWhile (fun c => c != 10), X.drop ((X.takeWhile (fun c => c != 10)).length + 1)) else none := by
 induction X with
 | nil => rfl
 | cons x t ih =>
  rw [splitC, List.takeWhile_cons]
  by_cases h : x = 10
  ·subst h; rfl
  ·have h2 : (x != 10) = true := by simpa using h
   rw [if_neg h, h2, ih]
   simp only [if_true, List.length_cons]
   by_cases h3 : (t.takeWhile (fun c => c != 10)).length < t.length
   ·rw [if_pos h3, if_pos (by omega)]; rfl
   ·rw [if_neg h3, if_neg (by omega)]; rfl
theorem line_all (l : List UInt8) (a : Nat) (hal : a ≤ l.length) (h : ¬ a + (lineOf l a).length < l.length) : lineOf l a = l.drop a := by
 have hpre := List.takeWhile_prefix (l := l.drop a) (fun c : UInt8 => c != 10)
 refine hpre.eq_of_length ?_
 have := line_le l a hal
 rw [List.length_drop]
 unfold lineOf at *
 omega
theorem wpList_put_J {W : World} {M : GoMap} {ops : Array Oper} {rest : List Oper} {o : Oper} {a : Act} {Q : Exit → Act → World → Prop}
  (hg : o.guard = none) (m x v : Operand) (hop : o.op = Op.mapUpdate 49 m x v) (hm : a.eval m = .map (some M.blk)) (hJ : MapJ W M) (hn : M.n < 140737488351232) (k u : Nat) (hx : a.eval x = .int .i64 (k : Int)) (hv : a.eval v = .int .i64 (u : Int)) (hk : k ≤ 140737488351232) (hu : u ≤ 140737488351232)
  (hK : ∀ W', MapJ W' ⟨M.blk, M.n + 1, jput M.J k u⟩ → W.grownBy W' (some M.blk) → wpList Tryz.prog ops Q rest (a.put o.dst undef) W') : wpList Tryz.prog ops Q (o :: rest) a W := by
 refine wpList_plain hg fun K' hK' => ?_
 obtain ⟨W', hrun, r1, r2⟩ := hJ.put hn hk hu
 unfold Oper.wp
 simp [execOp, hop, hm, hx, hv, hrun, Result.andThen]
 exact hK' _ _ (hK W' r1 r2)
variable {w w' : World} {P : Nat} {M : GoMap} {s : ByteArray} {at_ en : Nat} {tm : Bool} {tv bv ov : Value} {o e : UInt8}
theorem Sc.put {W W' : World} {M' : GoMap} (h : Sc W P M s at_ en tm tv bv ov) (hM : M'.blk = M.blk) (hJ : MapJ W' M') (g : W.grownBy W' (some M.blk)) : Sc W' P M' s at_ en tm tv bv ov :=
 ⟨by rw [g.block _ h.lt.1 (fun e => h.ne (by injection e with e; exact e.symm)), hM]; exact h.blk, hJ, by rw [hM]; exact h.ne⟩
theorem lines_no (h : Sc w P M s at_ en tm tv bv ov) (hat : at_ < s.size) (hE : ¬ at_ + (lineOf s.data.toList at_).length < s.data.toList.length) (nm : ByteArray) :
  Calls Tryz.prog 116 #[.pointer (some ⟨P, 0, none⟩), .string nm] w fun e w' => Bad s e ∧ Gr w w' := by
 have H := Lh h
 have HI := Lh (fun w => idx_any (s.extract at_ s.size) 10 w)
 rw [dropE, show ((10 : Int).toNat.toUInt8) = 10 from rfl, idx_line] at HI
 have hlt : ¬ ((s.data.toList.drop at_).takeWhile (fun c => c != 10)).length < (s.data.toList.drop at_).length := by rw [List.length_drop]; unfold lineOf at hE; omega
 rw [if_neg hlt] at HI
 have b0 : (at_ : Int) ≤ (s.size : Int) := by omega
 have Hat := Lh hat
 obtain ⟨c0, c1, c2, c3, c4, c5, c6, c7, cf⟩ := h.cells
 clear h hE hlt hat
 go_enter Tryz.func116, Tryz.ntmps116
 go_wp2_with fail
 go_quiet ((go_at_call 85; exact quiet_at (HI.out _)))
 go_wp2_with fail
 exact ⟨rfl, ⟨at_, Hat.out, rfl⟩, (Gr.refl w).drewN _⟩
def LinesP (s : ByteArray) (P : Nat) (M : GoMap) (a en : Nat) (tm : Bool) (tv bv ov : Value) (E b0 : Nat) (w : World) (X : Option (Nat × Nat)) (e : Ending) (w' : World) : Prop :=
 match X with
 | none => Bad s e ∧ Bt P M.blk w w'
 | some r => e = .returned (.string ⟨((s.data.toList.drop b0).take (r.1 - b0)).toArray⟩) ∧ Sc w' P ⟨M.blk, M.n + 1, jput M.J E r.2⟩ s a en tm tv bv ov ∧ Bt P M.blk w w'
set_option maxRecDepth 100000 in
set_option maxHeartbeats 2000000 in
theorem lines_g (h : Sc w P M s at_ en tm tv bv ov) (hs : s.size ≤ 4000) (hat : at_ < s.size) (hJ : JOk s.data.toList M.J) (hMn : M.n ≤ 4000) (E : Nat) (hE : E = at_ + (lineOf s.data.toList at_).length) (hEl : E < s.data.toList.length) (nm : ByteArray) (X : Option (Nat × Nat)) (f0 : Nat) (hf0 : s.data.toList.length < nx M.J E + f0) (hX : X = linesA s.data.toList nm.data.toList f0 (nx M.J E)) :
  Calls Tryz.prog 116 #[.pointer (some ⟨P, 0, none⟩), .string nm] w (LinesP s P M at_ en tm tv bv ov E (nx M.J E) w X) := by
 have H := Lh h
 have HI := Lh (fun w => idx_any (s.extract at_ s.size) 10 w)
 rw [dropE, show ((10 : Int).toNat.toUInt8) = 10 from rfl, idx_line] at HI
 have hlt : ((s.data.toList.drop at_).takeWhile (fun c => c != 10)).length < (s.data.toList.drop at_).length := by rw [List.length_drop]; unfold lineOf at hE; omega
 rw [if_pos hlt, show ((s.data.toList.drop at_).takeWhile (fun c => c != 10)).length = E - at_ by unfold lineOf at hE; omega] at HI
 obtain ⟨l, hl⟩ : ∃ l, l = s.data.toList := ⟨_, rfl⟩
 have hsz : s.size = l.length := by rw [hl, ← sizeL]
 rw [← hl] at hJ hE hEl hX hf0
 obtain ⟨d, hd⟩ : ∃ d, d = E - at_ := ⟨_, rfl⟩
 have hdE : (at_ : Int) + (d : Int) = (E : Int) := by omega
 rw [← hd] at HI
 have b0 : (at_ : Int) ≤ (s.size : Int) := by omega
 have d0 : ¬ (d : Int) < 0 := by omega
 have d1 : decide ((d : Int) < 0) = false := by simp
 have hE2 : E ≤ 140737488351232 := by omega
 obtain ⟨B, hB⟩ : ∃ B, B = nx M.J E := ⟨_, rfl⟩
 rw [← hB] at hX hf0 ⊢
 have hBE : E < B := by rw [hB]; exact nx_gt hJ E
 have hBl : B ≤ l.length := by rw [hB]; exact nx_le hJ hEl
 have HX := Lh hX
 have Hat := Lh hat
 have Hl := Lh hl
 have Hsz := Lh hsz
 have HMn := Lh hMn
 have Hs := Lh hs
 have Hf0 := Lh hf0
 have HBl := Lh hBl
 have HE4 : Hid (E ≤ 4000) := Lh (by omega)
 have hlk : (∀ q : Nat, (Instr.lookup 49 (.map (some M.blk)) (.int .i64 (E : Int)) true).run Tryz.prog (w.drewN q) = .ok (.tuple #[.int .i64 0, .bool false]) (w.drewN q)) ∧ B = E + 1 ∨ (∀ q : Nat, (Instr.lookup 49 (.map (some M.blk)) (.int .i64 (E : Int)) true).run Tryz.prog (w.drewN q) = .ok (.tuple #[.int .i64 (B : Int), .bool true]) (w.drewN q)) := by
  cases e2 : M.J E with
  | none => exact .inl ⟨fun q => MapJ.look_no (w := w.drewN q) (h.mp.at rfl) hE2 e2, by rw [hB]; unfold nx; rw [e2]; rfl⟩
  | some v =>
   have : B = v := by rw [hB]; unfold nx; rw [e2]; rfl
   rw [this]
   exact .inr fun q => MapJ.look_yes (w := w.drewN q) (h.mp.at rfl) hE2 e2
 obtain ⟨c0, c1, c2, c3, c4, c5, c6, c7, cf⟩ := h.cells
 have bE : (E : Int) + 1 ≤ 9223372036854775807 := by omega
 have bE2 : -9223372036854775808 ≤ (E : Int) + 1 := by omega
 clear h hE hlt hat hJ hX hl hsz hd hB hEl hf0 hMn hBl hs
 rcases hlk with ⟨hlk, hB1⟩ | hlk
 ·have hEB : (E : Int) + 1 = (B : Int) := by omega
  clear hB1 hBE
  go_enter Tryz.func116, Tryz.ntmps116
  go_wp2_with fail
  go_quiet ((go_at_call 85; exact quiet_at (HI.out _)))
  clear HI
  go_wp2_with fail
  clear hlk c0 c1 c2 c3 c4 c5 c6 c7 cf
  go_loopw [9] (fun v wr => ∃ n f : Nat, v = .int .i64 (n : Int) ∧ B ≤ n ∧ n ≤ l.length ∧ l.length < n + f ∧ Gr w wr ∧ Hid (X = linesA l nm.data.toList f n)) (fun v _ => leftTo l.length v)
  case atStart => exact ⟨B, f0, rfl, Nat.le_refl _, HBl.out, Hf0.out, (Gr.refl w).drewN _, HX⟩
  case round =>
   obtain ⟨n, f, rfl, hBn, hnl, hnf, hg, hR⟩ := hrel
   have Hg := Lh hg
   have Hnl := Lh hnl
   have HBn := Lh hBn
   have hsz := Hsz.out
   obtain ⟨c0, c1, c2, c3, c4, c5, c6, c7, cf⟩ := (H.out.gr Hg.out).cells
   clear hg HX
   by_cases hc : n < l.length
   ·obtain ⟨f, rfl⟩ : ∃ g, f = g + 1 := ⟨f - 1, by omega⟩
    have hsn : (n : Int) < (s.size : Int) := by omega
    have hsn' : (n : Int) ≤ (s.size : Int) := by omega
    have hs4 := Hs.out
    have hxl : (s.extract n s.size).data.toList = l.drop n := by rw [dropE, Hl.out]
    by_cases hm : n + (lineOf l n).length < l.length
    ·have hCt := Lh (fun w => cut_yes (s.extract n s.size) ⟨#[10]⟩ 10 (lineOf l n) ((l.drop n).drop ((lineOf l n).length + 1)) rfl (by rw [hxl, split_line]; unfold lineOf at hm; rw [if_pos (by rw [List.length_drop]; omega)]; rfl) (by rw [← sizeL, hxl, List.length_drop]; omega) w)
     obtain ⟨ln, hln⟩ : ∃ ln : ByteArray, ln = ⟨(lineOf l n).toArray⟩ := ⟨_, rfl⟩
     rw [← hln] at hCt
     have hll : ln.data.toList = lineOf l n := by rw [hln]
     have hls : ln.size = (lineOf l n).length := by rw [← sizeL, hll]
     have hbh : behindL l n = n + ln.size + 1 := by unfold behindL; rw [if_pos hm, hls]
     have hbg := behind_gt hc
     obtain ⟨bh, hbhe⟩ : ∃ bh, bh = behindL l n := ⟨_, rfl⟩
     have hsum : (n : Int) + (ln.size : Int) + 1 = (bh : Int) := by rw [hbhe, hbh]; omega
     rw [← hbhe] at hbg
     have Hbh := Lh hbhe
     have Hbg := Lh hbg
     have w1 : (n : Int) + (ln.size : Int) ≤ 9223372036854775807 := by omega
     have w2 : -9223372036854775808 ≤ (n : Int) + (ln.size : Int) := by omega
     have w3 : (bh : Int) ≤ 9223372036854775807 := by omega
     have w4 : -9223372036854775808 ≤ (bh : Int) := by omega
     have w5 : Hid (bh ≤ 140737488351232) := Lh (by omega)
     by_cases heq : lineOf l n = nm.data.toList
     ·have heb : (ln.toList == nm.toList) = true := by rw [ByteArray.toList_eq, ByteArray.toList_eq, hll, heq]; simp
      have HXX : Hid (X = some (n, bh)) := Lh (by rw [hR.out, linesA, if_pos hc, if_pos heq, hbhe])
      have HSl : Hid (s.extract B n = ⟨((l.drop B).take (n - B)).toArray⟩) := Lh (baE (by rw [extractE, ← Hl.out]))
      have n1 : (n : Int) ≤ (s.size : Int) := by omega
      have n2 : (B : Int) ≤ (n : Int) := by omega
      clear hR hll hls hln hbh hbg hbhe heq hxl hm hsz hnf hBn hnl hc
      go_wp2_with fail
      refine (hCt.out _).mono ?_
      rintro e w3 ⟨rfl, g3⟩
      have G3 := Lh (Gr.trans Hg.out g3)
      clear g3 c0 c1 c2 c3 c4 c5 c6 c7 cf
      obtain ⟨c0, c1, c2, c3, c4, c5, c6, c7, cf⟩ := (H.out.gr G3.out).cells
      go_wp2_with (refine wpList_put_J rfl (.tmp 82) (.tmp 83) (.tmp 84) rfl rfl (H.out.gr G3.out).mp (by have := HMn.out; omega) E bh rfl rfl (by have := HE4.out; omega) w5.out ?_)
      intro W4 hj4 hg4
      have S4 := Lh ((H.out.gr G3.out).put (M' := ⟨M.blk, M.n + 1, jput M.J E bh⟩) rfl hj4 hg4)
      have B4 := Lh ((Bt.of_gr (A := P) (B := M.blk) G3.out).trans (Bt.of_but2 hg4))
      clear hj4 hg4 c0 c1 c2 c3 c4 c5 c6 c7 cf
      obtain ⟨c0, c1, c2, c3, c4, c5, c6, c7, cf⟩ := S4.out.cells
      go_wp2_with fail
      go_ret
      rw [HXX.out]
      refine ⟨?_, S4.out, B4.out⟩
      rw [← Hl.out]
      first | rfl | (rw [← HSl.out]; rfl)
     ·have heb : (ln.toList == nm.toList) = false := by rw [ByteArray.toList_eq, ByteArray.toList_eq, hll]; simpa using heq
      have HXX : Hid (X = linesA l nm.data.toList f bh) := Lh (by rw [hR.out, linesA, if_pos hc, if_neg heq, hbhe])
      have Hnf : Hid (l.length < bh + f) := Lh (by omega)
      clear hR hll hls hln hbh hbg hbhe heq hxl hm hsz hnf hBn hnl hc
      go_wp2_with fail
      refine (hCt.out _).mono ?_
      rintro e w3 ⟨rfl, g3⟩
      have G3 := Lh (Gr.trans Hg.out g3)
      clear g3 c0 c1 c2 c3 c4 c5 c6 c7 cf
      go_wp2_with fail
      go_roundw
      case rel => have := Hbg.out; have := HBn.out; exact ⟨bh, f, by first | rfl | (rw [hsum]), by omega, by omega, Hnf.out, G3.out, HXX⟩
      case measure => have := Hbg.out; simp only [leftTo]; omega
    ·have hCt := Lh (fun w => cut_no (s.extract n s.size) ⟨#[10]⟩ 10 rfl (by rw [hxl, split_line]; unfold lineOf at hm; rw [if_neg (by rw [List.length_drop]; omega)]) w)
     obtain ⟨ln, hln⟩ : ∃ ln : ByteArray, ln = s.extract n s.size := ⟨_, rfl⟩
     rw [← hln] at hCt
     have hx : s.extract n s.size = ln := hln.symm
     have hll : ln.data.toList = lineOf l n := by rw [hln, hxl, line_all l n hnl hm]
     have hls : ln.size = (lineOf l n).length := by rw [← sizeL, hll]
     have hbh : behindL l n = n + ln.size := by unfold behindL; rw [if_neg hm, hls]
     have hbg := behind_gt hc
     obtain ⟨bh, hbhe⟩ : ∃ bh, bh = behindL l n := ⟨_, rfl⟩
     have hsum : (n : Int) + (ln.size : Int) = (bh : Int) := by rw [hbhe, hbh]; omega
     rw [← hbhe] at hbg
     have Hbh := Lh hbhe
     have Hbg := Lh hbg
     have w1 : (n : Int) + (ln.size : Int) ≤ 9223372036854775807 := by omega
     have w2 : -9223372036854775808 ≤ (n : Int) + (ln.size : Int) := by omega
     have w3 : (bh : Int) ≤ 9223372036854775807 := by omega
     have w4 : -9223372036854775808 ≤ (bh : Int) := by omega
     have w5 : Hid (bh ≤ 140737488351232) := Lh (by omega)
     by_cases heq : lineOf l n = nm.data.toList
     ·have heb : (ln.toList == nm.toList) = true := by rw [ByteArray.toList_eq, ByteArray.toList_eq, hll, heq]; simp
      have HXX : Hid (X = some (n, bh)) := Lh (by rw [hR.out, linesA, if_pos hc, if_pos heq, hbhe])
      have HSl : Hid (s.extract B n = ⟨((l.drop B).take (n - B)).toArray⟩) := Lh (baE (by rw [extractE, ← Hl.out]))
      have n1 : (n : Int) ≤ (s.size : Int) := by omega
      have n2 : (B : Int) ≤ (n : Int) := by omega
      clear hR hll hls hln hbh hbg hbhe heq hxl hm hsz hnf hBn hnl hc
      go_wp2_with fail
      refine (hCt.out _).mono ?_
      rintro e w3 ⟨rfl, g3⟩
      have G3 := Lh (Gr.trans Hg.out g3)
      clear g3 c0 c1 c2 c3 c4 c5 c6 c7 cf
      obtain ⟨c0, c1, c2, c3, c4, c5, c6, c7, cf⟩ := (H.out.gr G3.out).cells
      go_wp2_with (refine wpList_put_J rfl (.tmp 82) (.tmp 83) (.tmp 84) rfl rfl (H.out.gr G3.out).mp (by have := HMn.out; omega) E bh rfl rfl (by have := HE4.out; omega) w5.out ?_)
      intro W4 hj4 hg4
      have S4 := Lh ((H.out.gr G3.out).put (M' := ⟨M.blk, M.n + 1, jput M.J E bh⟩) rfl hj4 hg4)
      have B4 := Lh ((Bt.of_gr (A := P) (B := M.blk) G3.out).trans (Bt.of_but2 hg4))
      clear hj4 hg4 c0 c1 c2 c3 c4 c5 c6 c7 cf
      obtain ⟨c0, c1, c2, c3, c4, c5, c6, c7, cf⟩ := S4.out.cells
      go_wp2_with fail
      go_ret
      rw [HXX.out]
      refine ⟨?_, S4.out, B4.out⟩
      rw [← Hl.out]
      first | rfl | (rw [← HSl.out]; rfl)
     ·have heb : (ln.toList == nm.toList) = false := by rw [ByteArray.toList_eq, ByteArray.toList_eq, hll]; simpa using heq
      have HXX : Hid (X = linesA l nm.data.toList f bh) := Lh (by rw [hR.out, linesA, if_pos hc, if_neg heq, hbhe])
      have Hnf : Hid (l.length < bh + f) := Lh (by omega)
      clear hR hll hls hln hbh hbg hbhe heq hxl hm hsz hnf hBn hnl hc
      go_wp2_with fail
      refine (hCt.out _).mono ?_
      rintro e w3 ⟨rfl, g3⟩
      have G3 := Lh (Gr.trans Hg.out g3)
      clear g3 c0 c1 c2 c3 c4 c5 c6 c7 cf
      go_wp2_with fail
      go_roundw
      case rel => have := Hbg.out; have := HBn.out; exact ⟨bh, f, by first | rfl | (rw [hsum]), by omega, by omega, Hnf.out, G3.out, HXX⟩
      case measure => have := Hbg.out; simp only [leftTo]; omega
   ·have g1 : decide (n < s.size) = false := by rw [hsz]; simpa using hc
    have g2 : decide ((n : Int) < (s.size : Int)) = false := by rw [hsz]; simp; omega
    have HXX : Hid (X = none) := Lh (by
     rw [hR.out]
     cases f with
     | zero => rfl
     | succ f => rw [linesA, if_neg hc])
    clear hR hsz hc hnl hnf
    go_wp2_with fail
    refine ⟨rfl, ?_⟩
    rw [HXX.out]
    exact ⟨⟨at_, Hat.out, rfl⟩, Bt.of_gr Hg.out⟩
 ·clear hBE
  go_enter Tryz.func116, Tryz.ntmps116
  go_wp2_with fail
  go_quiet ((go_at_call 85; exact quiet_at (HI.out _)))
  clear HI
  go_wp2_with fail
  clear hlk c0 c1 c2 c3 c4 c5 c6 c7 cf
  go_loopw [9] (fun v wr => ∃ n f : Nat, v = .int .i64 (n : Int) ∧ B ≤ n ∧ n ≤ l.length ∧ l.length < n + f ∧ Gr w wr ∧ Hid (X = linesA l nm.data.toList f n)) (fun v _ => leftTo l.length v)
  case atStart => exact ⟨B, f0, rfl, Nat.le_refl _, HBl.out, Hf0.out, (Gr.refl w).drewN _, HX⟩
  case round =>
   obtain ⟨n, f, rfl, hBn, hnl, hnf, hg, hR⟩ := hrel
   have Hg := Lh hg
   have Hnl := Lh hnl
   have HBn := Lh hBn
   have hsz := Hsz.out
   obtain ⟨c0, c1, c2, c3, c4, c5, c6, c7, cf⟩ := (H.out.gr Hg.out).cells
   clear hg HX
   by_cases hc : n < l.length
   ·obtain ⟨f, rfl⟩ : ∃ g, f = g + 1 := ⟨f - 1, by omega⟩
    have hsn : (n : Int) < (s.size : Int) := by omega
    have hsn' : (n : Int) ≤ (s.size : Int) := by omega
    have hs4 := Hs.out
    have hxl : (s.extract n s.size).data.toList = l.drop n := by rw [dropE, Hl.out]
    by_cases hm : n + (lineOf l n).length < l.length
    ·have hCt := Lh (fun w => cut_yes (s.extract n s.size) ⟨#[10]⟩ 10 (lineOf l n) ((l.drop n).drop ((lineOf l n).length + 1)) rfl (by rw [hxl, split_line]; unfold lineOf at hm; rw [if_pos (by rw [List.length_drop]; omega)]; rfl) (by rw [← sizeL, hxl, List.length_drop]; omega) w)
     obtain ⟨ln, hln⟩ : ∃ ln : ByteArray, ln = ⟨(lineOf l n).toArray⟩ := ⟨_, rfl⟩
     rw [← hln] at hCt
     have hll : ln.data.toList = lineOf l n := by rw [hln]
     have hls : ln.size = (lineOf l n).length := by rw [← sizeL, hll]
     have hbh : behindL l n = n + ln.size + 1 := by unfold behindL; rw [if_pos hm, hls]
     have hbg := behind_gt hc
     obtain ⟨bh, hbhe⟩ : ∃ bh, bh = behindL l n := ⟨_, rfl⟩
     have hsum : (n : Int) + (ln.size : Int) + 1 = (bh : Int) := by rw [hbhe, hbh]; omega
     rw [← hbhe] at hbg
     have Hbh := Lh hbhe
     have Hbg := Lh hbg
     have w1 : (n : Int) + (ln.size : Int) ≤ 9223372036854775807 := by omega
     have w2 : -9223372036854775808 ≤ (n : Int) + (ln.size : Int) := by omega
     have w3 : (bh : Int) ≤ 9223372036854775807 := by omega
     have w4 : -9223372036854775808 ≤ (bh : Int) := by omega
     have w5 : Hid (bh ≤ 140737488351232) := Lh (by omega)
     by_cases heq : lineOf l n = nm.data.toList
     ·have heb : (ln.toList == nm.toList) = true := by rw [ByteArray.toList_eq, ByteArray.toList_eq, hll, heq]; simp
      have HXX : Hid (X = some (n, bh)) := Lh (by rw [hR.out, linesA, if_pos hc, if_pos heq, hbhe])
      have HSl : Hid (s.extract B n = ⟨((l.drop B).take (n - B)).toArray⟩) := Lh (baE (by rw [extractE, ← Hl.out]))
      have n1 : (n : Int) ≤ (s.size : Int) := by omega
      have n2 : (B : Int) ≤ (n : Int) := by omega
      clear hR hll hls hln hbh hbg hbhe heq hxl hm hsz hnf hBn hnl hc
      go_wp2_with fail
      refine (hCt.out _).mono ?_
      rintro e w3 ⟨rfl, g3⟩
      have G3 := Lh (Gr.trans Hg.out g3)
      clear g3 c0 c1 c2 c3 c4 c5 c6 c7 cf
      obtain ⟨c0, c1, c2, c3, c4, c5, c6, c7, cf⟩ := (H.out.gr G3.out).cells
      go_wp2_with (refine wpList_put_J rfl (.tmp 82) (.tmp 83) (.tmp 84) rfl rfl (H.out.gr G3.out).mp (by have := HMn.out; omega) E bh rfl rfl (by have := HE4.out; omega) w5.out ?_)
      intro W4 hj4 hg4
      have S4 := Lh ((H.out.gr G3.out).put (M' := ⟨M.blk, M.n + 1, jput M.J E bh⟩) rfl hj4 hg4)
      have B4 := Lh ((Bt.of_gr (A := P) (B := M.blk) G3.out).trans (Bt.of_but2 hg4))
      clear hj4 hg4 c0 c1 c2 c3 c4 c5 c6 c7 cf
      obtain ⟨c0, c1, c2, c3, c4, c5, c6, c7, cf⟩ := S4.out.cells
      go_wp2_with fail
      go_ret
      rw [HXX.out]
      refine ⟨?_, S4.out, B4.out⟩
      rw [← Hl.out]
      first | rfl | (rw [← HSl.out]; rfl)
     ·have heb : (ln.toList == nm.toList) = false := by rw [ByteArray.toList_eq, ByteArray.toList_eq, hll]; simpa using heq
      have HXX : Hid (X = linesA l nm.data.toList f bh) := Lh (by rw [hR.out, linesA, if_pos hc, if_neg heq, hbhe])
      have Hnf : Hid (l.length < bh + f) := Lh (by omega)
      clear hR hll hls hln hbh hbg hbhe heq hxl hm hsz hnf hBn hnl hc
      go_wp2_with fail
      refine (hCt.out _).mono ?_
      rintro e w3 ⟨rfl, g3⟩
      have G3 := Lh (Gr.trans Hg.out g3)
      clear g3 c0 c1 c2 c3 c4 c5 c6 c7 cf
      go_wp2_with fail
      go_roundw
      case rel => have := Hbg.out; have := HBn.out; exact ⟨bh, f, by first | rfl | (rw [hsum]), by omega, by omega, Hnf.out, G3.out, HXX⟩
      case measure => have := Hbg.out; simp only [leftTo]; omega
    ·have hCt := Lh (fun w => cut_no (s.extract n s.size) ⟨#[10]⟩ 10 rfl (by rw [hxl, split_line]; unfold lineOf at hm; rw [if_neg (by rw [List.length_drop]; omega)]) w)
     obtain ⟨ln, hln⟩ : ∃ ln : ByteArray, ln = s.extract n s.size := ⟨_, rfl⟩
     rw [← hln] at hCt
     have hx : s.extract n s.size = ln := hln.symm
     have hll : ln.data.toList = lineOf l n := by rw [hln, hxl, line_all l n hnl hm]
     have hls : ln.size = (lineOf l n).length := by rw [← sizeL, hll]
     have hbh : behindL l n = n + ln.size := by unfold behindL; rw [if_neg hm, hls]
     have hbg := behind_gt hc
     obtain ⟨bh, hbhe⟩ : ∃ bh, bh = behindL l n := ⟨_, rfl⟩
     have hsum : (n : Int) + (ln.size : Int) = (bh : Int) := by rw [hbhe, hbh]; omega
     rw [← hbhe] at hbg
     have Hbh := Lh hbhe
     have Hbg := Lh hbg
     have w1 : (n : Int) + (ln.size : Int) ≤ 9223372036854775807 := by omega
     have w2 : -9223372036854775808 ≤ (n : Int) + (ln.size : Int) := by omega
     have w3 : (bh : Int) ≤ 9223372036854775807 := by omega
     have w4 : -9223372036854775808 ≤ (bh : Int) := by omega
     have w5 : Hid (bh ≤ 140737488351232) := Lh (by omega)
     by_cases heq : lineOf l n = nm.data.toList
     ·have heb : (ln.toList == nm.toList) = true := by rw [ByteArray.toList_eq, ByteArray.toList_eq, hll, heq]; simp
      have HXX : Hid (X = some (n, bh)) := Lh (by rw [hR.out, linesA, if_pos hc, if_pos heq, hbhe])
      have HSl : Hid (s.extract B n = ⟨((l.drop B).take (n - B)).toArray⟩) := Lh (baE (by rw [extractE, ← Hl.out]))
      have n1 : (n : Int) ≤ (s.size : Int) := by omega
      have n2 : (B : Int) ≤ (n : Int) := by omega
      clear hR hll hls hln hbh hbg hbhe heq hxl hm hsz hnf hBn hnl hc
      go_wp2_with fail
      refine (hCt.out _).mono ?_
      rintro e w3 ⟨rfl, g3⟩
      have G3 := Lh (Gr.trans Hg.out g3)
      clear g3 c0 c1 c2 c3 c4 c5 c6 c7 cf
      obtain ⟨c0, c1, c2, c3, c4, c5, c6, c7, cf⟩ := (H.out.gr G3.out).cells
      go_wp2_with (refine wpList_put_J rfl (.tmp 82) (.tmp 83) (.tmp 84) rfl rfl (H.out.gr G3.out).mp (by have := HMn.out; omega) E bh rfl rfl (by have := HE4.out; omega) w5.out ?_)
      intro W4 hj4 hg4
      have S4 := Lh ((H.out.gr G3.out).put (M' := ⟨M.blk, M.n + 1, jput M.J E bh⟩) rfl hj4 hg4)
      have B4 := Lh ((Bt.of_gr (A := P) (B := M.blk) G3.out).trans (Bt.of_but2 hg4))
      clear hj4 hg4 c0 c1 c2 c3 c4 c5 c6 c7 cf
      obtain ⟨c0, c1, c2, c3, c4, c5, c6, c7, cf⟩ := S4.out.cells
      go_wp2_with fail
      go_ret
      rw [HXX.out]
      refine ⟨?_, S4.out, B4.out⟩
      rw [← Hl.out]
      first | rfl | (rw [← HSl.out]; rfl)
     ·have heb : (ln.toList == nm.toList) = false := by rw [ByteArray.toList_eq, ByteArray.toList_eq, hll]; simpa using heq
      have HXX : Hid (X = linesA l nm.data.toList f bh) := Lh (by rw [hR.out, linesA, if_pos hc, if_neg heq, hbhe])
      have Hnf : Hid (l.length < bh + f) := Lh (by omega)
      clear hR hll hls hln hbh hbg hbhe heq hxl hm hsz hnf hBn hnl hc
      go_wp2_with fail
      refine (hCt.out _).mono ?_
      rintro e w3 ⟨rfl, g3⟩
      have G3 := Lh (Gr.trans Hg.out g3)
      clear g3 c0 c1 c2 c3 c4 c5 c6 c7 cf
      go_wp2_with fail
      go_roundw
      case rel => have := Hbg.out; have := HBn.out; exact ⟨bh, f, by first | rfl | (rw [hsum]), by omega, by omega, Hnf.out, G3.out, HXX⟩
      case measure => have := Hbg.out; simp only [leftTo]; omega
   ·have g1 : decide (n < s.size) = false := by rw [hsz]; simpa using hc
    have g2 : decide ((n : Int) < (s.size : Int)) = false := by rw [hsz]; simp; omega
    have HXX : Hid (X = none) := Lh (by
     rw [hR.out]
     cases f with
     | zero => rfl
     | succ f => rw [linesA, if_neg hc])
    clear hR hsz hc hnl hnf
    go_wp2_with fail
    refine ⟨rfl, ?_⟩
    rw [HXX.out]
    exact ⟨⟨at_, Hat.out, rfl⟩, Bt.of_gr Hg.out⟩
end Go.Proofs.YthmopindibdhnaaGreatDoor.G
namespace Go.Proofs.YthmopindibdhnaaGreatDoor.G
open Go.RowKit Go.Shelf Go.Maps
variable {w : World} {P : Nat} {M : GoMap} {s : ByteArray} {at_ en : Nat} {tm : Bool} {tv bv ov : Value}
set_option maxRecDepth 100000 in
set_option maxHeartbeats 1000000 in
theorem heredoc_no (h : Sc w P M s at_ en tm tv bv ov) (hat : at_ ≤ s.size) (hn : Lib.hasPrefix (s.data.toList.drop at_) [60, 60] = false) :
  Calls Tryz.prog 100 #[.pointer (some ⟨P, 0, none⟩)] w fun e w' => e = .returned (.tuple #[tok0.val, .bool false]) ∧ Sc w' P M s at_ en tm tv bv ov ∧ But P w w' := by
 have H := Lh h
 have hcp := cutNo (s.extract at_ s.size) ⟨#[60, 60]⟩ (by rw [dropE]; exact hn)
 generalize (⟨(Lib.trimPrefix (s.extract at_ s.size).data.toList (⟨#[60, 60]⟩ : ByteArray).data.toList).toArray⟩ : ByteArray) = cut at hcp
 have HC := Lh hcp
 have b0 : (at_ : Int) ≤ (s.size : Int) := by omega
 have hP : P < w.heap.size := h.lt.1
 have hM : M.blk < w.heap.size := h.lt.2
 clear h hn hcp
 go_enter Tryz.func100, Tryz.ntmps100
 go_wp2_with fail
 generalize hW : w.alloc (.cells #[.int .i64 0, .int .i64 0, .string ⟨#[]⟩, .string ⟨#[]⟩, .string ⟨#[]⟩, .int .i64 0] 42) = W1
 have G1 : Hid (Gr w W1) := Lh (by rw [← hW]; exact (Gr.refl w).alloc _)
 have K1 : Hid (W1.heap[w.heap.size]? = some (.cells #[.int .i64 0, .int .i64 0, .string ⟨#[]⟩, .string ⟨#[]⟩, .string ⟨#[]⟩, .int .i64 0] 42 (0, 0))) := Lh (by rw [← hW]; exact heap_alloc_new w _)
 clear hW
 obtain ⟨c0, c1, c2, c3, c4, c5, c6, c7, cf⟩ := (H.out.gr G1.out).cells
 go_quiet ((go_at_call 113; exact quiet_at (HC.out _)))
 clear c0 c1 c2 c3 c4 c5 c6 c7 cf
 go_wp2_with (refine wpList_store_tok rfl (.tmp 2) (.tmp 24) rfl (t := tok0) rfl rfl K1.out rfl ?_)
 intro W3 hb3 hk3
 have B3 := Lh hb3
 have K3 := Lh hk3
 clear hb3 hk3
 go_wp2_with fail
 refine bodyPost_ret (results_tokB rfl rfl K3.out rfl) rfl ?_
 exact ⟨rfl, (H.out.gr (G1.out.drewN _)).but B3.out (by omega) (by omega), (But.of_gr (G1.out.drewN _)).late (Nat.le_refl _) B3.out⟩
section
variable {l : List UInt8} {J : Nat → Option Nat} {a : Nat}
theorem line3 (hJ : JOk l J) (a : Nat) (hal : a ≤ l.length) : LEq (l.drop a) (byt (rest l J a)) (lineOf l a).length ∧ ∀ i, i ≤ (lineOf l a).length → (rest l J a).drop i = rest l J (a + i) := by
 obtain ⟨m, ⟨h1, h2⟩, h3⟩ := line hJ a
 have hll := line_le l a hal
 have hm : (lineOf l a).length ≤ m := by
  rcases h2 with h2 | h2
  ·have := List.getElem?_eq_none_iff.1 h2
   rw [List.length_drop] at this; omega
  ·rw [List.getElem?_drop] at h2
   by_cases hlt : a + (lineOf l a).length < l.length
   ·obtain ⟨_, hno⟩ := eol_some hlt
    apply Classical.byContradiction
    intro hn
    exact hno (a + m) (by omega) (by omega) h2
   ·exact absurd h2 (eol_none hlt (by omega))
 refine ⟨⟨fun i hi => h1 i (by omega), ?_⟩, fun i hi => h3 i (by omega)⟩
 rw [List.getElem?_drop]
 by_cases hlt : a + (lineOf l a).length < l.length
 ·exact .inr (eol_some hlt).1
 ·exact .inl (List.getElem?_eq_none (by omega))
theorem eol_shift : ∀ n a, a + n ≤ l.length → n ≤ (lineOf l a).length → a + (lineOf l a).length = a + n + (lineOf l (a + n)).length
 | 0, _, _, _ => rfl
 | n + 1, a, h, hn => by
  have ha : a < l.length := by omega
  have h10 : l[a] ≠ 10 := fun e => by
   have : lineOf l a = [] := by unfold lineOf; rw [List.drop_eq_getElem_cons ha, List.takeWhile_cons, e]; rfl
   rw [this] at hn; simp at hn
  have hl : lineOf l a = l[a] :: lineOf l (a + 1) := by
   unfold lineOf
   rw [List.drop_eq_getElem_cons ha, List.takeWhile_cons, if_pos (by simpa using h10)]
  have := eol_shift n (a + 1) (by omega) (by rw [hl] at hn; simp at hn; omega)
  rw [hl, List.length_cons]
  rw [show a + (n + 1) = a + 1 + n by omega]
  omega
end
theorem hwL_len (l : List UInt8) : (hwL l).1.length ≤ l.length := by
 have hsp : ∀ q p, splitC q (l.drop 1) = some p → p.1.length ≤ l.length := fun q p h => by
  obtain ⟨a, b⟩ := p
  have := congrArg List.length (splitC_some h).1
  rw [List.length_drop, List.length_append, List.length_cons] at this
  show a.length ≤ l.length
  omega
 unfold hwL
 split
 ·cases h : splitC 39 (l.drop 1) with
  | none => exact Nat.zero_le _
  | some p => exact hsp 39 p h
 ·split
  ·cases h : splitC 34 (l.drop 1) with
   | none => exact Nat.zero_le _
   | some p => exact hsp 34 p h
  ·show (l.take (wordN l)).length ≤ l.length
   rw [List.length_take]; omega
set_option maxRecDepth 100000 in
set_option maxHeartbeats 2000000 in
theorem here_none (h : Sc w P M s at_ en tm tv bv ov) (hs : s.size ≤ 4000) (hat : at_ < s.size) (hp : Lib.hasPrefix (s.data.toList.drop at_) [60, 60] = true) (hW : isW (hwL (s.data.toList.drop (at_ + 2))).1 = false) :
  Calls Tryz.prog 100 #[.pointer (some ⟨P, 0, none⟩)] w fun e w' => e = .returned (.tuple #[tok0.val, .bool false]) ∧ Sc w' P M s at_ en tm tv bv ov ∧ But P w w' := by
 have H := Lh h
 obtain ⟨r0, hr0⟩ : ∃ r0 : ByteArray, r0 = ⟨(s.data.toList.drop (at_ + 2)).toArray⟩ := ⟨_, rfl⟩
 have hrl : r0.data.toList = s.data.toList.drop (at_ + 2) := by rw [hr0]
 have hrs : r0.size ≤ 4000 := by rw [← sizeL, hrl, List.length_drop, sizeL]; omega
 have HC := Lh (fun w => cutp_any (s.extract at_ s.size) ⟨#[60, 60]⟩ w)
 rw [dropE, show (⟨#[60, 60]⟩ : ByteArray).data.toList = [60, 60] from rfl, hp, show Lib.trimPrefix (s.data.toList.drop at_) [60, 60] = s.data.toList.drop (at_ + 2) by unfold Lib.trimPrefix; rw [hp]; simp [List.drop_drop], ← hr0] at HC
 have HHw := Lh (fun w => hw_p r0 (by omega) w)
 rw [hrl] at HHw
 generalize hY : hwL (s.data.toList.drop (at_ + 2)) = Y at *
 obtain ⟨wd, mk⟩ := Y
 obtain ⟨wb, hwb⟩ : ∃ wb : ByteArray, wb = ⟨wd.toArray⟩ := ⟨_, rfl⟩
 obtain ⟨mb, hmb⟩ : ∃ mb : ByteArray, mb = ⟨mk.toArray⟩ := ⟨_, rfl⟩
 have hwl : wb.data.toList = wd := by rw [hwb]
 have hml : mb.data.toList = mk := by rw [hmb]
 simp only at HHw hW
 rw [← hwb, ← hmb] at HHw
 have HIW := Lh (fun w => isWord_p wb (by have h1 := hwL_len (s.data.toList.drop (at_ + 2)); rw [hY] at h1; simp only at h1; rw [List.length_drop, sizeL] at h1; rw [← sizeL, hwl]; omega) w)
 rw [hwl, hW] at HIW
 have b0 : (at_ : Int) ≤ (s.size : Int) := by omega
 have hP : P < w.heap.size := h.lt.1
 have hM : M.blk < w.heap.size := h.lt.2
 clear h hp hW hY hrl hrs hr0 hwl hml hwb hmb
 go_enter Tryz.func100, Tryz.ntmps100
 go_wp2_with fail
 generalize hW : w.alloc (.cells #[.int .i64 0, .int .i64 0, .string ⟨#[]⟩, .string ⟨#[]⟩, .string ⟨#[]⟩, .int .i64 0] 42) = W1
 have G1 : Hid (Gr w W1) := Lh (by rw [← hW]; exact (Gr.refl w).alloc _)
 have K1 : Hid (W1.heap[w.heap.size]? = some (.cells #[.int .i64 0, .int .i64 0, .string ⟨#[]⟩, .string ⟨#[]⟩, .string ⟨#[]⟩, .int .i64 0] 42 (0, 0))) := Lh (by rw [← hW]; exact heap_alloc_new w _)
 clear hW
 obtain ⟨c0, c1, c2, c3, c4, c5, c6, c7, cf⟩ := (H.out.gr G1.out).cells
 go_quiet ((go_at_call 113; exact quiet_at (HC.out _)))
 clear c0 c1 c2 c3 c4 c5 c6 c7 cf
 have G2 := Lh (G1.out.drewN nq)
 have K2 := Lh (show (W1.drewN nq).heap[w.heap.size]? = some (.cells #[.int .i64 0, .int .i64 0, .string ⟨#[]⟩, .string ⟨#[]⟩, .string ⟨#[]⟩, .int .i64 0] 42 (0, 0)) from K1.out)
 generalize W1.drewN nq = W2 at *
 go_wp2_with fail
 refine (HHw.out _).mono ?_
 rintro e w3 ⟨rfl, g3⟩
 have G3 := Lh (Gr.trans G2.out g3)
 have K3 := Lh ((g3.block _ (Ag K2.out).1).trans K2.out)
 clear g3 G2 K2 G1 K1
 go_wp2_with fail
 refine (HIW.out _).mono ?_
 rintro e w4 ⟨rfl, rfl⟩
 go_wp2_with (refine wpList_store_tok rfl (.tmp 2) (.tmp 33) rfl (t := tok0) rfl rfl K3.out rfl ?_)
 intro W5 hb5 hk5
 have B5 := Lh hb5
 have K5 := Lh hk5
 clear hb5 hk5
 go_wp2_with fail
 refine bodyPost_ret (results_tokB rfl rfl K5.out rfl) rfl ?_
 exact ⟨rfl, (H.out.gr G3.out).but B5.out (by omega) (by omega), (But.of_gr G3.out).late (Nat.le_refl _) B5.out⟩
set_option maxRecDepth 100000 in
set_option maxHeartbeats 2000000 in
theorem here_bad1 (h : Sc w P M s at_ en tm tv bv ov) (hs : s.size ≤ 4000) (hat : at_ < s.size) (hp : Lib.hasPrefix (s.data.toList.drop at_) [60, 60] = true) (hW : isW (hwL (s.data.toList.drop (at_ + 2))).1 = true) (hE : ¬ at_ + (lineOf s.data.toList at_).length < s.data.toList.length) :
  Calls Tryz.prog 100 #[.pointer (some ⟨P, 0, none⟩)] w fun e w' => Bad s e ∧ Bt P M.blk w w' := by
 have H := Lh h
 obtain ⟨r0, hr0⟩ : ∃ r0 : ByteArray, r0 = ⟨(s.data.toList.drop (at_ + 2)).toArray⟩ := ⟨_, rfl⟩
 have hrl : r0.data.toList = s.data.toList.drop (at_ + 2) := by rw [hr0]
 have hrs : r0.size ≤ 4000 := by rw [← sizeL, hrl, List.length_drop, sizeL]; omega
 have HC := Lh (fun w => cutp_any (s.extract at_ s.size) ⟨#[60, 60]⟩ w)
 rw [dropE, show (⟨#[60, 60]⟩ : ByteArray).data.toList = [60, 60] from rfl, hp, show Lib.trimPrefix (s.data.toList.drop at_) [60, 60] = s.data.toList.drop (at_ + 2) by unfold Lib.trimPrefix; rw [hp]; simp [List.drop_drop], ← hr0] at HC
 have HHw := Lh (fun w => hw_p r0 (by omega) w)
 rw [hrl] at HHw
 generalize hY : hwL (s.data.toList.drop (at_ + 2)) = Y at *
 obtain ⟨wd, mk⟩ := Y
 obtain ⟨wb, hwb⟩ : ∃ wb : ByteArray, wb = ⟨wd.toArray⟩ := ⟨_, rfl⟩
 obtain ⟨mb, hmb⟩ : ∃ mb : ByteArray, mb = ⟨mk.toArray⟩ := ⟨_, rfl⟩
 have hwl : wb.data.toList = wd := by rw [hwb]
 have hml : mb.data.toList = mk := by rw [hmb]
 simp only at HHw hW
 rw [← hwb, ← hmb] at HHw
 have HIW := Lh (fun w => isWord_p wb (by have h1 := hwL_len (s.data.toList.drop (at_ + 2)); rw [hY] at h1; simp only at h1; rw [List.length_drop, sizeL] at h1; rw [← sizeL, hwl]; omega) w)
 rw [hwl, hW] at HIW
 have b0 : (at_ : Int) ≤ (s.size : Int) := by omega
 have hP : P < w.heap.size := h.lt.1
 have hM : M.blk < w.heap.size := h.lt.2
 have HL := Lh (fun (W : World) (hS : Sc W P M s at_ en tm tv bv ov) => lines_no hS hat hE wb)
 clear h hp hW hY hrl hrs hr0 hwl hml hwb hmb hE
 go_enter Tryz.func100, Tryz.ntmps100
 go_wp2_with fail
 generalize hW : w.alloc (.cells #[.int .i64 0, .int .i64 0, .string ⟨#[]⟩, .string ⟨#[]⟩, .string ⟨#[]⟩, .int .i64 0] 42) = W1
 have G1 : Hid (Gr w W1) := Lh (by rw [← hW]; exact (Gr.refl w).alloc _)
 have K1 : Hid (W1.heap[w.heap.size]? = some (.cells #[.int .i64 0, .int .i64 0, .string ⟨#[]⟩, .string ⟨#[]⟩, .string ⟨#[]⟩, .int .i64 0] 42 (0, 0))) := Lh (by rw [← hW]; exact heap_alloc_new w _)
 clear hW
 obtain ⟨c0, c1, c2, c3, c4, c5, c6, c7, cf⟩ := (H.out.gr G1.out).cells
 go_quiet ((go_at_call 113; exact quiet_at (HC.out _)))
 clear c0 c1 c2 c3 c4 c5 c6 c7 cf
 have G2 := Lh (G1.out.drewN nq)
 have K2 := Lh (show (W1.drewN nq).heap[w.heap.size]? = some (.cells #[.int .i64 0, .int .i64 0, .string ⟨#[]⟩, .string ⟨#[]⟩, .string ⟨#[]⟩, .int .i64 0] 42 (0, 0)) from K1.out)
 generalize W1.drewN nq = W2 at *
 go_wp2_with fail
 refine (HHw.out _).mono ?_
 rintro e w3 ⟨rfl, g3⟩
 have G3 := Lh (Gr.trans G2.out g3)
 have K3 := Lh ((g3.block _ (Ag K2.out).1).trans K2.out)
 clear g3 G2 K2 G1 K1
 go_wp2_with fail
 refine (HIW.out _).mono ?_
 rintro e w4 ⟨rfl, rfl⟩
 go_wp2_with fail
 refine (HL.out _ (H.out.gr G3.out)).mono ?_
 rintro e w5 ⟨⟨q, hq, rfl⟩, hb⟩
 go_wp2_with fail
 exact ⟨rfl, ⟨q, hq, rfl⟩, (Bt.of_gr G3.out).trans (Bt.of_gr hb)⟩
set_option maxRecDepth 100000 in
set_option maxHeartbeats 2000000 in
theorem here_bad2 (h : Sc w P M s at_ en tm tv bv ov) (hs : s.size ≤ 4000) (hat : at_ < s.size) (hp : Lib.hasPrefix (s.data.toList.drop at_) [60, 60] = true) (hW : isW (hwL (s.data.toList.drop (at_ + 2))).1 = true) (hJ : JOk s.data.toList M.J) (hMn : M.n ≤ 4000) (E : Nat) (hE : E = at_ + (lineOf s.data.toList at_).length) (hEl : E < s.data.toList.length) (f0 : Nat) (hf0 : s.data.toList.length < nx M.J E + f0) (hX : linesA s.data.toList (hwL (s.data.toList.drop (at_ + 2))).1 f0 (nx M.J E) = none) :
  Calls Tryz.prog 100 #[.pointer (some ⟨P, 0, none⟩)] w fun e w' => Bad s e ∧ Bt P M.blk w w' := by
 have H := Lh h
 obtain ⟨r0, hr0⟩ : ∃ r0 : ByteArray, r0 = ⟨(s.data.toList.drop (at_ + 2)).toArray⟩ := ⟨_, rfl⟩
 have hrl : r0.data.toList = s.data.toList.drop (at_ + 2) := by rw [hr0]
 have hrs : r0.size ≤ 4000 := by rw [← sizeL, hrl, List.length_drop, sizeL]; omega
 have HC := Lh (fun w => cutp_any (s.extract at_ s.size) ⟨#[60, 60]⟩ w)
 rw [dropE, show (⟨#[60, 60]⟩ : ByteArray).data.toList = [60, 60] from rfl, hp, show Lib.trimPrefix (s.data.toList.drop at_) [60, 60] = s.data.toList.drop (at_ + 2) by unfold Lib.trimPrefix; rw [hp]; simp [List.drop_drop], ← hr0] at HC
 have HHw := Lh (fun w => hw_p r0 (by omega) w)
 rw [hrl] at HHw
 generalize hY : hwL (s.data.toList.drop (at_ + 2)) = Y at *
 obtain ⟨wd, mk⟩ := Y
 obtain ⟨wb, hwb⟩ : ∃ wb : ByteArray, wb = ⟨wd.toArray⟩ := ⟨_, rfl⟩
 obtain ⟨mb, hmb⟩ : ∃ mb : ByteArray, mb = ⟨mk.toArray⟩ := ⟨_, rfl⟩
 have hwl : wb.data.toList = wd := by rw [hwb]
 have hml : mb.data.toList = mk := by rw [hmb]
 simp only at HHw hW
 rw [← hwb, ← hmb] at HHw
 have HIW := Lh (fun w => isWord_p wb (by have h1 := hwL_len (s.data.toList.drop (at_ + 2)); rw [hY] at h1; simp only at h1; rw [List.length_drop, sizeL] at h1; rw [← sizeL, hwl]; omega) w)
 rw [hwl, hW] at HIW
 have b0 : (at_ : Int) ≤ (s.size : Int) := by omega
 have hP : P < w.heap.size := h.lt.1
 have hM : M.blk < w.heap.size := h.lt.2
 have HL := Lh (fun (W : World) (hS : Sc W P M s at_ en tm tv bv ov) => lines_g hS hs hat hJ hMn E hE hEl wb none f0 hf0 (by rw [hwl]; exact hX.symm))
 clear h hp hW hY hrl hrs hr0 hwl hml hwb hmb hE hJ hMn hEl hf0 hX
 go_enter Tryz.func100, Tryz.ntmps100
 go_wp2_with fail
 generalize hW : w.alloc (.cells #[.int .i64 0, .int .i64 0, .string ⟨#[]⟩, .string ⟨#[]⟩, .string ⟨#[]⟩, .int .i64 0] 42) = W1
 have G1 : Hid (Gr w W1) := Lh (by rw [← hW]; exact (Gr.refl w).alloc _)
 have K1 : Hid (W1.heap[w.heap.size]? = some (.cells #[.int .i64 0, .int .i64 0, .string ⟨#[]⟩, .string ⟨#[]⟩, .string ⟨#[]⟩, .int .i64 0] 42 (0, 0))) := Lh (by rw [← hW]; exact heap_alloc_new w _)
 clear hW
 obtain ⟨c0, c1, c2, c3, c4, c5, c6, c7, cf⟩ := (H.out.gr G1.out).cells
 go_quiet ((go_at_call 113; exact quiet_at (HC.out _)))
 clear c0 c1 c2 c3 c4 c5 c6 c7 cf
 have G2 := Lh (G1.out.drewN nq)
 have K2 := Lh (show (W1.drewN nq).heap[w.heap.size]? = some (.cells #[.int .i64 0, .int .i64 0, .string ⟨#[]⟩, .string ⟨#[]⟩, .string ⟨#[]⟩, .int .i64 0] 42 (0, 0)) from K1.out)
 generalize W1.drewN nq = W2 at *
 go_wp2_with fail
 refine (HHw.out _).mono ?_
 rintro e w3 ⟨rfl, g3⟩
 have G3 := Lh (Gr.trans G2.out g3)
 have K3 := Lh ((g3.block _ (Ag K2.out).1).trans K2.out)
 clear g3 G2 K2 G1 K1
 go_wp2_with fail
 refine (HIW.out _).mono ?_
 rintro e w4 ⟨rfl, rfl⟩
 go_wp2_with fail
 refine (HL.out _ (H.out.gr G3.out)).mono ?_
 rintro e w5 ⟨⟨q, hq, rfl⟩, hb⟩
 go_wp2_with fail
 exact ⟨rfl, ⟨q, hq, rfl⟩, (Bt.of_gr G3.out).trans hb⟩
set_option maxRecDepth 100000 in
set_option maxHeartbeats 2000000 in
theorem here_ok4 (h : Sc w P M s at_ en tm tv bv ov) (hs : s.size ≤ 4000) (hat : at_ < s.size) (hp : Lib.hasPrefix (s.data.toList.drop at_) [60, 60] = true) (hW : isW (hwL (s.data.toList.drop (at_ + 2))).1 = true) (hJ : JOk s.data.toList M.J) (hMn : M.n ≤ 4000) (E : Nat) (hE : E = at_ + (lineOf s.data.toList at_).length) (hEl : E < s.data.toList.length) (f0 : Nat) (hf0 : s.data.toList.length < nx M.J E + f0) (r : Nat × Nat) (hX : linesA s.data.toList (hwL (s.data.toList.drop (at_ + 2))).1 f0 (nx M.J E) = some r) (n : Nat) (hn : n = 2 + (2 * (hwL (s.data.toList.drop (at_ + 2))).2.length + (hwL (s.data.toList.drop (at_ + 2))).1.length)) (hnl : at_ + n ≤ s.data.toList.length) (hmk : (hwL (s.data.toList.drop (at_ + 2))).2 = [39]) :
  Calls Tryz.prog 100 #[.pointer (some ⟨P, 0, none⟩)] w fun e w' => e = .returned (.tuple #[(tok 4 ⟨((s.data.toList.drop (nx M.J E)).take (r.1 - nx M.J E)).toArray⟩).val, .bool true]) ∧ Sc w' P ⟨M.blk, M.n + 1, jput M.J E r.2⟩ s (at_ + n) en tm tv bv ov ∧ Bt P M.blk w w' := by
 have H := Lh h
 obtain ⟨r0, hr0⟩ : ∃ r0 : ByteArray, r0 = ⟨(s.data.toList.drop (at_ + 2)).toArray⟩ := ⟨_, rfl⟩
 have hrl : r0.data.toList = s.data.toList.drop (at_ + 2) := by rw [hr0]
 have hrs : r0.size ≤ 4000 := by rw [← sizeL, hrl, List.length_drop, sizeL]; omega
 have HC := Lh (fun w => cutp_any (s.extract at_ s.size) ⟨#[60, 60]⟩ w)
 rw [dropE, show (⟨#[60, 60]⟩ : ByteArray).data.toList = [60, 60] from rfl, hp, show Lib.trimPrefix (s.data.toList.drop at_) [60, 60] = s.data.toList.drop (at_ + 2) by unfold Lib.trimPrefix; rw [hp]; simp [List.drop_drop], ← hr0] at HC
 have HHw := Lh (fun w => hw_p r0 (by omega) w)
 rw [hrl] at HHw
 generalize hY : hwL (s.data.toList.drop (at_ + 2)) = Y at *
 obtain ⟨wd, mk⟩ := Y
 obtain ⟨wb, hwb⟩ : ∃ wb : ByteArray, wb = ⟨wd.toArray⟩ := ⟨_, rfl⟩
 obtain ⟨mb, hmb⟩ : ∃ mb : ByteArray, mb = ⟨mk.toArray⟩ := ⟨_, rfl⟩
 have hwl : wb.data.toList = wd := by rw [hwb]
 have hml : mb.data.toList = mk := by rw [hmb]
 simp only at HHw hW
 rw [← hwb, ← hmb] at HHw
 have HIW := Lh (fun w => isWord_p wb (by have h1 := hwL_len (s.data.toList.drop (at_ + 2)); rw [hY] at h1; simp only at h1; rw [List.length_drop, sizeL] at h1; rw [← sizeL, hwl]; omega) w)
 rw [hwl, hW] at HIW
 have b0 : (at_ : Int) ≤ (s.size : Int) := by omega
 have hP : P < w.heap.size := h.lt.1
 have hM : M.blk < w.heap.size := h.lt.2
 have HL := Lh (fun (W : World) (hS : Sc W P M s at_ en tm tv bv ov) => (show Calls Tryz.prog 116 #[.pointer (some ⟨P, 0, none⟩), .string wb] W fun e w' => e = .returned (.string ⟨((s.data.toList.drop (nx M.J E)).take (r.1 - nx M.J E)).toArray⟩) ∧ Sc w' P ⟨M.blk, M.n + 1, jput M.J E r.2⟩ s at_ en tm tv bv ov ∧ Bt P M.blk W w' from lines_g hS hs hat hJ hMn E hE hEl wb (some r) f0 hf0 (by rw [hwl]; exact hX.symm)))
 have hmn : (2 : Int) + (mb.size : Int) + (wb.size : Int) + (mb.size : Int) = (n : Int) := by
  have h1 : mb.size = mk.length := by rw [← sizeL, hml]
  have h2 : wb.size = wd.length := by rw [← sizeL, hwl]
  simp only at hn; omega
 rw [sizeL] at hnl
 obtain ⟨b, hb⟩ : ∃ b, b = at_ + n := ⟨_, rfl⟩
 have hbn : (at_ : Int) + (n : Int) = (b : Int) := by omega
 rw [← hb]
 have m1 : (2 : Int) + (mb.size : Int) ≤ 9223372036854775807 := by omega
 have m2 : -9223372036854775808 ≤ (2 : Int) + (mb.size : Int) := by omega
 have m3 : (2 : Int) + (mb.size : Int) + (wb.size : Int) ≤ 9223372036854775807 := by omega
 have m4 : -9223372036854775808 ≤ (2 : Int) + (mb.size : Int) + (wb.size : Int) := by omega
 have m5 : (n : Int) ≤ 9223372036854775807 := by omega
 have m6 : -9223372036854775808 ≤ (n : Int) := by omega
 have m7 : (b : Int) ≤ 9223372036854775807 := by omega
 have m8 : -9223372036854775808 ≤ (b : Int) := by omega
 have hmq : (mb.toList == [39]) = true := by rw [ByteArray.toList_eq, hml]; simp only at hmk; rw [hmk]; rfl
 have HIN : Hid (((s.data.toList.drop (nx M.J E)).take (r.1 - nx M.J E)).length ≤ 100000) := Lh (by rw [List.length_take, List.length_drop, sizeL]; omega)
 generalize (s.data.toList.drop (nx M.J E)).take (r.1 - nx M.J E) = body at *
 clear h hp hW hY hrl hrs hr0 hwl hml hwb hmb hE hJ hMn hEl hf0 hX hn hnl hb hmk
 go_enter Tryz.func100, Tryz.ntmps100
 go_wp2_with fail
 generalize hW : w.alloc (.cells #[.int .i64 0, .int .i64 0, .string ⟨#[]⟩, .string ⟨#[]⟩, .string ⟨#[]⟩, .int .i64 0] 42) = W1
 have G1 : Hid (Gr w W1) := Lh (by rw [← hW]; exact (Gr.refl w).alloc _)
 have K1 : Hid (W1.heap[w.heap.size]? = some (.cells #[.int .i64 0, .int .i64 0, .string ⟨#[]⟩, .string ⟨#[]⟩, .string ⟨#[]⟩, .int .i64 0] 42 (0, 0))) := Lh (by rw [← hW]; exact heap_alloc_new w _)
 clear hW
 obtain ⟨c0, c1, c2, c3, c4, c5, c6, c7, cf⟩ := (H.out.gr G1.out).cells
 go_quiet ((go_at_call 113; exact quiet_at (HC.out _)))
 clear c0 c1 c2 c3 c4 c5 c6 c7 cf
 have G2 := Lh (G1.out.drewN nq)
 have K2 := Lh (show (W1.drewN nq).heap[w.heap.size]? = some (.cells #[.int .i64 0, .int .i64 0, .string ⟨#[]⟩, .string ⟨#[]⟩, .string ⟨#[]⟩, .int .i64 0] 42 (0, 0)) from K1.out)
 generalize W1.drewN nq = W2 at *
 go_wp2_with fail
 refine (HHw.out _).mono ?_
 rintro e w3 ⟨rfl, g3⟩
 have G3 := Lh (Gr.trans G2.out g3)
 have K3 := Lh ((g3.block _ (Ag K2.out).1).trans K2.out)
 clear g3 G2 K2 G1 K1
 go_wp2_with fail
 refine (HIW.out _).mono ?_
 rintro e w4 ⟨rfl, rfl⟩
 go_wp2_with fail
 refine (HL.out _ (H.out.gr G3.out)).mono ?_
 rintro e w5 ⟨rfl, hS5, hb5⟩
 have S5 := Lh hS5
 have K5 := Lh ((hb5.block _ (Ag K3.out).1 (by omega) (by omega)).trans K3.out)
 have B5 := Lh ((Bt.of_gr (A := P) (B := M.blk) G3.out).trans hb5)
 clear hS5 hb5 K3 G3 HL
 obtain ⟨c0, c1, c2, c3, c4, c5, c6, c7, cf⟩ := S5.out.cells
 have BS : But P w5 (w5.setCell ⟨P, 1, none⟩ (.int .i64 (b : Int))) := But.set 1 _
 have S7 := Lh (S5.out.setAt b)
 have K7 := Lh ((BS.block _ (Ag K5.out).1 (by simp; omega)).trans K5.out)
 have B7 := Lh (B5.out.trans (Bt.of_but BS))
 clear BS S5 K5 B5
 go_wp2_with (refine wpList_store_tok rfl (.tmp 2) (.tmp 56) rfl (t := tok 4 ⟨body.toArray⟩) rfl rfl K7.out rfl ?_)
 intro W9 hb9 hk9
 have B9 := Lh hb9
 have K9 := Lh hk9
 clear hb9 hk9
 go_wp2_with fail
 refine bodyPost_ret (results_tokB rfl rfl K9.out rfl) rfl ?_
 exact ⟨rfl, S7.out.but B9.out (by omega) (by show M.blk ≠ w.heap.size; omega), B7.out.late (Nat.le_refl _) B9.out⟩
set_option maxRecDepth 100000 in
set_option maxHeartbeats 2000000 in
theorem here_ok5 (h : Sc w P M s at_ en tm tv bv ov) (hs : s.size ≤ 4000) (hat : at_ < s.size) (hp : Lib.hasPrefix (s.data.toList.drop at_) [60, 60] = true) (hW : isW (hwL (s.data.toList.drop (at_ + 2))).1 = true) (hJ : JOk s.data.toList M.J) (hMn : M.n ≤ 4000) (E : Nat) (hE : E = at_ + (lineOf s.data.toList at_).length) (hEl : E < s.data.toList.length) (f0 : Nat) (hf0 : s.data.toList.length < nx M.J E + f0) (r : Nat × Nat) (hX : linesA s.data.toList (hwL (s.data.toList.drop (at_ + 2))).1 f0 (nx M.J E) = some r) (n : Nat) (hn : n = 2 + (2 * (hwL (s.data.toList.drop (at_ + 2))).2.length + (hwL (s.data.toList.drop (at_ + 2))).1.length)) (hnl : at_ + n ≤ s.data.toList.length) (hmk : (hwL (s.data.toList.drop (at_ + 2))).2 ≠ [39]) :
  Calls Tryz.prog 100 #[.pointer (some ⟨P, 0, none⟩)] w fun e w' => e = .returned (.tuple #[(tok 5 ⟨(inL 34 ((s.data.toList.drop (nx M.J E)).take (r.1 - nx M.J E))).toArray⟩).val, .bool true]) ∧ Sc w' P ⟨M.blk, M.n + 1, jput M.J E r.2⟩ s (at_ + n) en tm tv bv ov ∧ Bt P M.blk w w' := by
 have H := Lh h
 obtain ⟨r0, hr0⟩ : ∃ r0 : ByteArray, r0 = ⟨(s.data.toList.drop (at_ + 2)).toArray⟩ := ⟨_, rfl⟩
 have hrl : r0.data.toList = s.data.toList.drop (at_ + 2) := by rw [hr0]
 have hrs : r0.size ≤ 4000 := by rw [← sizeL, hrl, List.length_drop, sizeL]; omega
 have HC := Lh (fun w => cutp_any (s.extract at_ s.size) ⟨#[60, 60]⟩ w)
 rw [dropE, show (⟨#[60, 60]⟩ : ByteArray).data.toList = [60, 60] from rfl, hp, show Lib.trimPrefix (s.data.toList.drop at_) [60, 60] = s.data.toList.drop (at_ + 2) by unfold Lib.trimPrefix; rw [hp]; simp [List.drop_drop], ← hr0] at HC
 have HHw := Lh (fun w => hw_p r0 (by omega) w)
 rw [hrl] at HHw
 generalize hY : hwL (s.data.toList.drop (at_ + 2)) = Y at *
 obtain ⟨wd, mk⟩ := Y
 obtain ⟨wb, hwb⟩ : ∃ wb : ByteArray, wb = ⟨wd.toArray⟩ := ⟨_, rfl⟩
 obtain ⟨mb, hmb⟩ : ∃ mb : ByteArray, mb = ⟨mk.toArray⟩ := ⟨_, rfl⟩
 have hwl : wb.data.toList = wd := by rw [hwb]
 have hml : mb.data.toList = mk := by rw [hmb]
 simp only at HHw hW
 rw [← hwb, ← hmb] at HHw
 have HIW := Lh (fun w => isWord_p wb (by have h1 := hwL_len (s.data.toList.drop (at_ + 2)); rw [hY] at h1; simp only at h1; rw [List.length_drop, sizeL] at h1; rw [← sizeL, hwl]; omega) w)
 rw [hwl, hW] at HIW
 have b0 : (at_ : Int) ≤ (s.size : Int) := by omega
 have hP : P < w.heap.size := h.lt.1
 have hM : M.blk < w.heap.size := h.lt.2
 have HL := Lh (fun (W : World) (hS : Sc W P M s at_ en tm tv bv ov) => (show Calls Tryz.prog 116 #[.pointer (some ⟨P, 0, none⟩), .string wb] W fun e w' => e = .returned (.string ⟨((s.data.toList.drop (nx M.J E)).take (r.1 - nx M.J E)).toArray⟩) ∧ Sc w' P ⟨M.blk, M.n + 1, jput M.J E r.2⟩ s at_ en tm tv bv ov ∧ Bt P M.blk W w' from lines_g hS hs hat hJ hMn E hE hEl wb (some r) f0 hf0 (by rw [hwl]; exact hX.symm)))
 have hmn : (2 : Int) + (mb.size : Int) + (wb.size : Int) + (mb.size : Int) = (n : Int) := by
  have h1 : mb.size = mk.length := by rw [← sizeL, hml]
  have h2 : wb.size = wd.length := by rw [← sizeL, hwl]
  simp only at hn; omega
 rw [sizeL] at hnl
 obtain ⟨b, hb⟩ : ∃ b, b = at_ + n := ⟨_, rfl⟩
 have hbn : (at_ : Int) + (n : Int) = (b : Int) := by omega
 rw [← hb]
 have m1 : (2 : Int) + (mb.size : Int) ≤ 9223372036854775807 := by omega
 have m2 : -9223372036854775808 ≤ (2 : Int) + (mb.size : Int) := by omega
 have m3 : (2 : Int) + (mb.size : Int) + (wb.size : Int) ≤ 9223372036854775807 := by omega
 have m4 : -9223372036854775808 ≤ (2 : Int) + (mb.size : Int) + (wb.size : Int) := by omega
 have m5 : (n : Int) ≤ 9223372036854775807 := by omega
 have m6 : -9223372036854775808 ≤ (n : Int) := by omega
 have m7 : (b : Int) ≤ 9223372036854775807 := by omega
 have m8 : -9223372036854775808 ≤ (b : Int) := by omega
 have hmq : (mb.toList == [39]) = false := by rw [ByteArray.toList_eq, hml]; simpa using hmk
 have HIN : Hid (((s.data.toList.drop (nx M.J E)).take (r.1 - nx M.J E)).length ≤ 100000) := Lh (by rw [List.length_take, List.length_drop, sizeL]; omega)
 generalize (s.data.toList.drop (nx M.J E)).take (r.1 - nx M.J E) = body at *
 clear h hp hW hY hrl hrs hr0 hwl hml hwb hmb hE hJ hMn hEl hf0 hX hn hnl hb hmk
 go_enter Tryz.func100, Tryz.ntmps100
 go_wp2_with fail
 generalize hW : w.alloc (.cells #[.int .i64 0, .int .i64 0, .string ⟨#[]⟩, .string ⟨#[]⟩, .string ⟨#[]⟩, .int .i64 0] 42) = W1
 have G1 : Hid (Gr w W1) := Lh (by rw [← hW]; exact (Gr.refl w).alloc _)
 have K1 : Hid (W1.heap[w.heap.size]? = some (.cells #[.int .i64 0, .int .i64 0, .string ⟨#[]⟩, .string ⟨#[]⟩, .string ⟨#[]⟩, .int .i64 0] 42 (0, 0))) := Lh (by rw [← hW]; exact heap_alloc_new w _)
 clear hW
 obtain ⟨c0, c1, c2, c3, c4, c5, c6, c7, cf⟩ := (H.out.gr G1.out).cells
 go_quiet ((go_at_call 113; exact quiet_at (HC.out _)))
 clear c0 c1 c2 c3 c4 c5 c6 c7 cf
 have G2 := Lh (G1.out.drewN nq)
 have K2 := Lh (show (W1.drewN nq).heap[w.heap.size]? = some (.cells #[.int .i64 0, .int .i64 0, .string ⟨#[]⟩, .string ⟨#[]⟩, .string ⟨#[]⟩, .int .i64 0] 42 (0, 0)) from K1.out)
 generalize W1.drewN nq = W2 at *
 go_wp2_with fail
 refine (HHw.out _).mono ?_
 rintro e w3 ⟨rfl, g3⟩
 have G3 := Lh (Gr.trans G2.out g3)
 have K3 := Lh ((g3.block _ (Ag K2.out).1).trans K2.out)
 clear g3 G2 K2 G1 K1
 go_wp2_with fail
 refine (HIW.out _).mono ?_
 rintro e w4 ⟨rfl, rfl⟩
 go_wp2_with fail
 refine (HL.out _ (H.out.gr G3.out)).mono ?_
 rintro e w5 ⟨rfl, hS5, hb5⟩
 have S5 := Lh hS5
 have K5 := Lh ((hb5.block _ (Ag K3.out).1 (by omega) (by omega)).trans K3.out)
 have B5 := Lh ((Bt.of_gr (A := P) (B := M.blk) G3.out).trans hb5)
 clear hS5 hb5 K3 G3 HL
 obtain ⟨c0, c1, c2, c3, c4, c5, c6, c7, cf⟩ := S5.out.cells
 go_wp2_with fail
 have HIn := Lh (fun w => inter_l body 34 HIN.out w)
 have BS : But P w5 (w5.setCell ⟨P, 1, none⟩ (.int .i64 (b : Int))) := But.set 1 _
 have S6 := Lh (S5.out.setAt b)
 have K6 := Lh ((BS.block _ (Ag K5.out).1 (by simp; omega)).trans K5.out)
 have B6 := Lh (B5.out.trans (Bt.of_but BS))
 clear BS S5 K5 B5 c0 c1 c2 c3 c4 c5 c6 c7 cf
 refine (HIn.out _).mono ?_
 rintro e w7 ⟨rfl, g7⟩
 have S7 := Lh (S6.out.gr g7)
 have K7 := Lh ((g7.block _ (Ag K6.out).1).trans K6.out)
 have B7 := Lh (B6.out.trans (Bt.of_gr g7))
 clear g7 S6 K6 B6
 go_wp2_with (refine wpList_store_tok rfl (.tmp 2) (.tmp 59) rfl (t := tok 5 ⟨(inL 34 body).toArray⟩) rfl rfl K7.out rfl ?_)
 intro W9 hb9 hk9
 have B9 := Lh hb9
 have K9 := Lh hk9
 clear hb9 hk9
 go_wp2_with fail
 refine bodyPost_ret (results_tokB rfl rfl K9.out rfl) rfl ?_
 exact ⟨rfl, S7.out.but B9.out (by omega) (by show M.blk ≠ w.heap.size; omega), B7.out.late (Nat.le_refl _) B9.out⟩
end Go.Proofs.YthmopindibdhnaaGreatDoor.G
