import Derived.Test.YthmopindibdhnaaGreatDoorQ00
import Derived.Test.YthmopindibdhnaaGreatDoorQ05
import Derived.Test.YthmopindibdhnaaGreatDoorQ06
import Derived.Test.YthmopindibdhnaaGreatDoorQ04
import Derived.Deep.RegionLaw
import Derived.Deep.Cut
namespace Go.Proofs.YthmopindibdhnaaGreatDoor.G
open Go.RowKit Go.Shelf Go.Maps
theorem map_none {α β : Type} {f : α → β} {X : Option α} (h : X = none) : X.map f = none := by rw [h]; rfl
section
variable {l : List UInt8} {J : Nat → Option Nat} {o e : UInt8} {d n : Nat}
theorem partS_nil : partS o e d [] = none := by rw [partS]
theorem partS_one (x : Nat × UInt8) : partS o e d [x] = if x.2 = e ∧ d = 0 then some ([], []) else none := by rw [partS]
theorem partS_esc (hJ : JOk l J) (h : n < l.length) (h2 : nx J n < l.length) (hc : l[n] = 92) : partS o e d (rest l J n) = (partS o e d (rest l J (nx J (nx J n)))).map fun r => (l[n] :: l[nx J n] :: r.1, r.2) := by
 rw [rest_cons hJ h, rest_cons hJ h2, partS, if_pos hc]
theorem partS_end0 (hJ : JOk l J) (h : n < l.length) (hb : l[n] ≠ 92) (hc : l[n] = e) : partS o e 0 (rest l J n) = some ([], rest l J (nx J n)) := by
 rw [rest_cons hJ h]
 by_cases h2 : nx J n < l.length
 ·rw [rest_cons hJ h2, partS, if_neg hb, if_pos hc, if_pos rfl]
 ·rw [rest_nil (by omega), partS_one, if_pos ⟨hc, rfl⟩]
theorem partS_endS (hJ : JOk l J) (h : n < l.length) (hb : l[n] ≠ 92) (hc : l[n] = e) : partS o e (d + 1) (rest l J n) = (partS o e d (rest l J (nx J n))).map fun r => (l[n] :: r.1, r.2) := by
 rw [rest_cons hJ h]
 by_cases h2 : nx J n < l.length
 ·rw [rest_cons hJ h2, partS, if_neg hb, if_pos hc, if_neg (by omega)]; rfl
 ·rw [rest_nil (a := nx J n) (by omega), partS_one, if_neg (by omega), partS_nil]; rfl
theorem partS_open (hJ : JOk l J) (h : n < l.length) (hb : l[n] ≠ 92) (hc : l[n] ≠ e) (ho : l[n] = o) : partS o e d (rest l J n) = (partS o e (d + 1) (rest l J (nx J n))).map fun r => (l[n] :: r.1, r.2) := by
 rw [rest_cons hJ h]
 by_cases h2 : nx J n < l.length
 ·rw [rest_cons hJ h2, partS, if_neg hb, if_neg hc, if_pos ho]
 ·rw [rest_nil (a := nx J n) (by omega), partS_one, if_neg (fun h => hc h.1), partS_nil]; rfl
theorem partS_else (hJ : JOk l J) (h : n < l.length) (hb : l[n] = 92 → ¬ nx J n < l.length) (hc : l[n] ≠ e) (ho : l[n] ≠ o) : partS o e d (rest l J n) = (partS o e d (rest l J (nx J n))).map fun r => (l[n] :: r.1, r.2) := by
 rw [rest_cons hJ h]
 by_cases h2 : nx J n < l.length
 ·rw [rest_cons hJ h2, partS, if_neg (fun e2 => hb e2 h2), if_neg hc, if_neg ho]
 ·rw [rest_nil (a := nx J n) (by omega), partS_one, if_neg (fun h => hc h.1), partS_nil]; rfl
end
variable {w w' : World} {P : Nat} {M : GoMap} {s : ByteArray} {at_ en : Nat} {tm : Bool} {tv bv ov : Value} {o e : UInt8}
def PartP (s : ByteArray) (P : Nat) (M : GoMap) (en : Nat) (tm : Bool) (tv bv ov : Value) (a : Nat) (w : World) (X : Option (List UInt8 × Src)) (e : Ending) (w' : World) : Prop :=
 match X with
 | none => Bad s e ∧ But P w w'
 | some r => ∃ b, e = .returned (.string ⟨r.1.toArray⟩) ∧ Sc w' P M s b en tm tv bv ov ∧ But P w w' ∧ r.2 = rest s.data.toList M.J b ∧ a < b ∧ b ≤ s.data.toList.length ∧ r.1.length ≤ b
set_option maxRecDepth 100000 in
set_option maxHeartbeats 2000000 in
theorem part_g {Q fr : Nat} (h : Sc w P M s at_ en tm tv bv ov) (hq : Quo w Q P fr o) (hQP : Q ≠ P) (hs : s.size ≤ 140737488351232) (hJ : JOk s.data.toList M.J) (ha : at_ ≤ s.data.toList.length) (hfr : fr < s.size) (he : (e.toNat : Int) = partI o.toNat) (he92 : e ≠ 92) (ho92 : o ≠ 92) (X : Option (List UInt8 × Src)) (hX : X = partS o e 0 (rest s.data.toList M.J at_)) :
  Calls Tryz.prog 125 #[.pointer (some ⟨Q, 0, none⟩)] w (PartP s P M en tm tv bv ov at_ w X) := by
 have H := Lh h
 have HQ := Lh hq
 have HP := Lh (fun w => part_p o.toNat w)
 rw [← he] at HP
 obtain ⟨l, hl⟩ : ∃ l, l = s.data.toList := ⟨_, rfl⟩
 have hsz : s.size = l.length := by rw [hl, ← sizeL]
 have HB := Lh (fun n (h : n < s.size) (h' : n < l.length) => (show s[n] = l[n] by subst hl; exact byteE s n h h'))
 rw [← hl] at hJ ha hX
 have Hl := Lh hl
 have HJ := Lh hJ
 have Hsz := Lh hsz
 have HX : Hid (X = (partS o e 0 (rest l M.J at_)).map fun r => ([] ++ r.1, r.2)) := Lh (by rw [hX]; cases partS o e 0 (rest l M.J at_) <;> rfl)
 have Hfr := Lh hfr
 have Ha := Lh ha
 have hPB : P < w.heap.size := h.lt.1
 have hMB : M.blk < w.heap.size := h.lt.2
 have hQB : Q < w.heap.size := (Ag hq).1
 have HST := Lh (fun (W : World) (k : Nat) (hk : k ≤ 140737488351232) (hS : Sc W P M s k en tm tv bv ov) => step_m hS hk)
 clear h hq he hl hsz hJ ha hX hfr
 go_enter Tryz.func125, Tryz.ntmps125
 obtain ⟨q0, q1, q2⟩ := (HQ.out.but (But.of_gr ((Gr.refl w).alloc (.cells #[.pointer none, .slice none 0 0] 74))) hQP).cells
 go_wp2_with fail
 refine (HP.out _).mono ?_
 rintro e w1 ⟨rfl, rfl⟩
 go_wp2_with fail
 generalize hW : w.alloc (.cells #[.pointer none, .slice none 0 0] 74) = W1 at *
 have G1 : Hid (Gr w W1) := Lh (by rw [← hW]; exact (Gr.refl w).alloc _)
 have hBl : Hid (Bld w.heap.size [] W1) := Lh (by rw [← hW]; exact bld_new w)
 have hsz1 : Hid (W1.heap.size = w.heap.size + 1) := Lh (by rw [← hW]; simp)
 clear hW q0 q1 q2 HP
 go_loopw [5, 6] (fun pv _ wr => ∃ (d n : Nat) (acc : List UInt8), pv = .int .i64 (d : Int) ∧ at_ ≤ n ∧ d ≤ n ∧ n ≤ l.length ∧ Sc wr P M s n en tm tv bv ov ∧ Bld w.heap.size acc wr ∧ acc.length ≤ n ∧ But P w wr ∧ w.heap.size + 1 ≤ wr.heap.size ∧ Hid (X = (partS o e d (rest l M.J n)).map fun r => (acc ++ r.1, r.2))) (fun _ _ wr => atLeft s.size P wr)
 case atStart => exact ⟨0, at_, [], rfl, Nat.le_refl _, Nat.zero_le _, Ha.out, H.out.gr G1.out, hBl.out, Nat.zero_le _, But.of_gr G1.out, by rw [hsz1.out]; exact Nat.le_refl _, HX⟩
 case round =>
  obtain ⟨d, n, acc, rfl, han, hdn, hnl, hS, hBld, hacc, hBut, hZ, hE⟩ := hrel
  have S := Lh hS
  have Bl := Lh hBld
  have Bu := Lh hBut
  have Z := Lh hZ
  have Han := Lh han
  have Hdn := Lh hdn
  have HAc := Lh hacc
  clear hS hBld hBut hZ hBl G1 HX hsz1
  obtain ⟨c0, c1, c2, c3, c4, c5, c6, c7, cf⟩ := S.out.cells
  obtain ⟨q0, q1, q2⟩ := (HQ.out.but Bu.out hQP).cells
  by_cases hc : n < l.length
  ·have hsn : n < s.size := by rw [Hsz.out]; exact hc
   have hc' : (n : Int) < (s.size : Int) := by omega
   have ex := HB.out n hsn hc
   have Hns := Lh hsn
   have hlS := Hsz.out
   have Hn47 : Hid (n ≤ 140737488351232) := Lh (by omega)
   have HBd : Hid (acc.length + 1 ≤ 140737488355328) := Lh (by omega)
   obtain ⟨n1, hn1⟩ : ∃ n1, n1 = nx M.J n := ⟨_, rfl⟩
   have Hn1 := Lh hn1
   have Hnn : Hid (n < n1) := Lh (by rw [hn1]; exact nx_gt HJ.out n)
   have Hn1l : Hid (n1 ≤ l.length) := Lh (by rw [hn1]; exact nx_le HJ.out hc)
   by_cases hesc : l[n] = 92 ∧ n1 < l.length
   ·obtain ⟨h92, hn2⟩ := hesc
    have HE : Hid (X = (partS o e d (rest l M.J (nx M.J n1))).map fun r => ((acc ++ [l[n]] ++ [l[n1]]) ++ r.1, r.2)) := Lh (by
     subst hn1
     rw [hE.out, partS_esc HJ.out hc hn2 h92, Option.map_map]
     congr 1; funext r; simp)
    have hsn1 : n1 < s.size := by omega
    have hc1 : (n1 : Int) < (s.size : Int) := by omega
    have ex1 := HB.out n1 hsn1 hn2
    have t92 : ((l[n].toNat : Int) == 92) = true := by rw [h92]; rfl
    have Hn147 : Hid (n1 ≤ 140737488351232) := Lh (by omega)
    have Hns1 := Lh hsn1
    obtain ⟨n2, hn2e⟩ : ∃ n2, n2 = nx M.J n1 := ⟨_, rfl⟩
    have Hn2 := Lh hn2e
    have Hnn2 : Hid (n1 < n2) := Lh (by rw [hn2e]; exact nx_gt HJ.out n1)
    have Hn2l : Hid (n2 ≤ l.length) := Lh (by rw [hn2e]; exact nx_le HJ.out hn2)
    rw [← hn2e] at HE
    generalize l[n] = x at *
    generalize l[n1] = y at *
    clear hE HB hc hn2 h92 hlS hn1 hnl han hdn hacc hn2e
    go_wp2_with fail
    go_quiet (fail)
    go_wp2_with fail
    go_quiet (fail)
    go_wp2_with fail
    refine (HST.out _ n Hn47.out (S.out.gr ((Gr.refl wr).drewN _))).mono ?_
    rintro e1 w2 ⟨rfl, hS2, hb2⟩
    rw [← Hn1.out] at hS2
    have K2 := Lh ((But.of_gr (P := P) ((Gr.refl wr).drewN _)).trans hb2)
    have Z2 : Hid (w.heap.size + 1 ≤ w2.heap.size) := Lh (Nat.le_trans Z.out K2.out.size)
    have B2 := Lh (Bu.out.trans K2.out)
    have L2 := Lh (Bld.but Bl.out hPB K2.out)
    have S2 := Lh hS2
    clear hS2 hb2 K2 c0 c1 c2 c3 c4 c5 c6 c7 cf q0 q1 q2 Bu Bl Z
    obtain ⟨c0, c1, c2, c3, c4, c5, c6, c7, cf⟩ := S2.out.cells
    obtain ⟨q0, q1, q2⟩ := (HQ.out.but B2.out hQP).cells
    go_wp2_with fail
    go_quiet (fail)
    go_wp2_with fail
    refine (bld_byte x (Bld.but L2.out hPB (But.of_gr ((Gr.refl w2).drewN _))) HBd.out (by have := Z2.out; simp; omega)).mono ?_
    rintro e3 w3 ⟨rfl, hl3, hb3, _⟩
    have S3 := Lh ((S2.out.gr ((Gr.refl w2).drewN _)).below hb3 hPB hMB)
    have B3 := Lh ((B2.out.trans (But.of_gr ((Gr.refl w2).drewN _))).below hb3 (Nat.le_refl _))
    have L3 := Lh hl3
    have Z3 : Hid (w.heap.size + 1 ≤ w3.heap.size) := Lh (Nat.le_trans Z2.out (Nat.le_trans (by simp) hb3.size))
    clear hl3 hb3 L2 S2 B2 Z2 c0 c1 c2 c3 c4 c5 c6 c7 cf q0 q1 q2
    obtain ⟨c0, c1, c2, c3, c4, c5, c6, c7, cf⟩ := S3.out.cells
    obtain ⟨q0, q1, q2⟩ := (HQ.out.but B3.out hQP).cells
    go_wp2_with fail
    go_quiet (fail)
    go_wp2_with fail
    refine (HST.out _ n1 Hn147.out (S3.out.gr ((Gr.refl w3).drewN _))).mono ?_
    rintro e4 w4 ⟨rfl, hS4, hb4⟩
    rw [← Hn2.out] at hS4
    have K4 := Lh ((But.of_gr (P := P) ((Gr.refl w3).drewN _)).trans hb4)
    have Z4 : Hid (w.heap.size + 1 ≤ w4.heap.size) := Lh (Nat.le_trans Z3.out K4.out.size)
    have B4 := Lh (B3.out.trans K4.out)
    have L4 := Lh (Bld.but L3.out hPB K4.out)
    have S4 := Lh hS4
    clear hS4 hb4 K4 c0 c1 c2 c3 c4 c5 c6 c7 cf q0 q1 q2 S3 B3 L3 Z3
    go_wp2_with fail
    refine (bld_byte y L4.out (by have := HBd.out; have := HAc.out; have := Hn47.out; simp only [List.length_append, List.length_cons, List.length_nil]; omega) (by have := Z4.out; omega)).mono ?_
    rintro e5 w5 ⟨rfl, hl5, hb5, _⟩
    have S5 := Lh (S4.out.below hb5 hPB hMB)
    have B5 := Lh (B4.out.below hb5 (Nat.le_refl _))
    have L5 := Lh hl5
    have Z5 : Hid (w.heap.size + 1 ≤ w5.heap.size) := Lh (Nat.le_trans Z4.out hb5.size)
    clear hl5 hb5 L4 S4 B4 Z4
    go_wp2
    go_roundw
    case rel =>
     have := Hnn.out
     have := Hnn2.out
     have := Han.out
     have := HAc.out
     have := Hdn.out
     exact ⟨d, n2, acc ++ [x] ++ [y], rfl, by omega, by omega, Hn2l.out, S5.out, L5.out, by simp only [List.length_append, List.length_cons, List.length_nil]; omega, B5.out, Z5.out, HE⟩
    case measure =>
     have := Hnn.out
     have := Hnn2.out
     have := Hns.out
     rw [S.out.left, S5.out.left]
     omega
   ·have t92 : (((l[n].toNat : Int) == 92) = false) ∨ (((l[n].toNat : Int) == 92) = true ∧ decide (n1 < s.size) = false ∧ decide ((n1 : Int) < (s.size : Int)) = false) := by
     by_cases h : l[n] = 92
     ·have : ¬ n1 < l.length := fun h2 => hesc ⟨h, h2⟩
      exact .inr ⟨by rw [h]; rfl, by simp; omega, by simp; omega⟩
     ·exact .inl (u8_lit h)
    have hcond : l[n] = 92 → ¬ nx M.J n < l.length := fun h h2 => hesc ⟨h, by rw [hn1]; exact h2⟩
    by_cases hce : l[n] = e
    ·have te : ((l[n].toNat : Int) == (e.toNat : Int)) = true := by rw [hce]; simp
     have hx92 : l[n] ≠ 92 := by rw [hce]; exact he92
     have t92' : ((l[n].toNat : Int) == 92) = false := u8_lit hx92
     clear t92
     cases d with
     | zero =>
      have HE : Hid (X = some (acc, rest l M.J n1)) := Lh (by
       rw [hE.out, partS_end0 HJ.out hc hx92 hce, hn1]; simp)
      generalize l[n] = x at *
      clear hE HB hc hx92 hce hesc hcond hlS hn1 hnl han hdn hacc
      go_wp2_with fail
      go_quiet (fail)
      go_wp2_with fail
      go_quiet (fail)
      go_wp2_with fail
      refine (HST.out _ n Hn47.out (S.out.gr ((Gr.refl wr).drewN _))).mono ?_
      rintro e1 w2 ⟨rfl, hS2, hb2⟩
      rw [← Hn1.out] at hS2
      have K2 := Lh ((But.of_gr (P := P) ((Gr.refl wr).drewN _)).trans hb2)
      have Z2 : Hid (w.heap.size + 1 ≤ w2.heap.size) := Lh (Nat.le_trans Z.out K2.out.size)
      have B2 := Lh (Bu.out.trans K2.out)
      have L2 := Lh (Bld.but Bl.out hPB K2.out)
      have S2 := Lh hS2
      clear hS2 hb2 K2 c0 c1 c2 c3 c4 c5 c6 c7 cf q0 q1 q2 Bu Bl Z
      obtain ⟨c0, c1, c2, c3, c4, c5, c6, c7, cf⟩ := S2.out.cells
      obtain ⟨q0, q1, q2⟩ := (HQ.out.but B2.out hQP).cells
      go_wp2_with fail
      go_quiet (fail)
      go_wp2_with fail
      refine (bld_text (Bld.but L2.out hPB (But.of_gr ((Gr.refl w2).drewN _))) (by have := Z2.out; simp; omega)).mono ?_
      rintro e3 w3 ⟨rfl, hb3⟩
      go_wp2
      go_ret
      rw [HE.out]
      have := Hnn.out
      have := Han.out
      have := HAc.out
      refine ⟨n1, rfl, (S2.out.gr ((Gr.refl w2).drewN _)).below hb3 hPB hMB, (B2.out.trans (But.of_gr ((Gr.refl w2).drewN _))).below hb3 (Nat.le_refl _), by rw [← Hl.out], by omega, by rw [← Hl.out]; exact Hn1l.out, by show acc.length ≤ n1; omega⟩
     | succ d =>
      have HE : Hid (X = (partS o e d (rest l M.J n1)).map fun r => ((acc ++ [l[n]]) ++ r.1, r.2)) := Lh (by
       rw [hE.out, partS_endS HJ.out hc hx92 hce, Option.map_map, hn1]
       congr 1; funext r; simp)
      have td : ((((d + 1 : Nat) : Int)) == 0) = false := by simp; omega
      have hd1 : ((d + 1 : Nat) : Int) - 1 = (d : Int) := by omega
      have bd : (d : Int) ≤ 9223372036854775807 := by omega
      have bd0 : -9223372036854775808 ≤ (d : Int) := by omega
      obtain ⟨d1, hd1'⟩ : ∃ d1, d1 = d + 1 := ⟨_, rfl⟩
      rw [← hd1'] at td hd1 ⊢
      generalize l[n] = x at *
      have Hdd := Lh hd1'
      clear hE HB hc hx92 hce hesc hcond hlS hn1 hnl han hdn hacc hd1'
      go_wp2_with fail
      go_quiet (fail)
      go_wp2_with fail
      go_quiet (fail)
      go_wp2_with fail
      refine (HST.out _ n Hn47.out (S.out.gr ((Gr.refl wr).drewN _))).mono ?_
      rintro e1 w2 ⟨rfl, hS2, hb2⟩
      rw [← Hn1.out] at hS2
      have K2 := Lh ((But.of_gr (P := P) ((Gr.refl wr).drewN _)).trans hb2)
      have Z2 : Hid (w.heap.size + 1 ≤ w2.heap.size) := Lh (Nat.le_trans Z.out K2.out.size)
      have B2 := Lh (Bu.out.trans K2.out)
      have L2 := Lh (Bld.but Bl.out hPB K2.out)
      have S2 := Lh hS2
      clear hS2 hb2 K2 c0 c1 c2 c3 c4 c5 c6 c7 cf q0 q1 q2 Bu Bl Z
      obtain ⟨c0, c1, c2, c3, c4, c5, c6, c7, cf⟩ := S2.out.cells
      obtain ⟨q0, q1, q2⟩ := (HQ.out.but B2.out hQP).cells
      go_wp2_with fail
      go_quiet (fail)
      go_wp2_with fail
      refine (bld_byte x (Bld.but L2.out hPB (But.of_gr ((Gr.refl w2).drewN _))) HBd.out (by have := Z2.out; simp; omega)).mono ?_
      rintro e3 w3 ⟨rfl, hl3, hb3, _⟩
      have S3 := Lh ((S2.out.gr ((Gr.refl w2).drewN _)).below hb3 hPB hMB)
      have B3 := Lh ((B2.out.trans (But.of_gr ((Gr.refl w2).drewN _))).below hb3 (Nat.le_refl _))
      have L3 := Lh hl3
      have Z3 : Hid (w.heap.size + 1 ≤ w3.heap.size) := Lh (Nat.le_trans Z2.out (Nat.le_trans (by simp) hb3.size))
      clear hl3 hb3 L2 S2 B2 Z2 c0 c1 c2 c3 c4 c5 c6 c7 cf q0 q1 q2
      go_wp2
      go_roundw
      case rel =>
       have := Hnn.out
       have := Han.out
       have := HAc.out
       have := Hdn.out
       have := Hdd.out
       exact ⟨d, n1, acc ++ [x], rfl, by omega, by omega, Hn1l.out, S3.out, L3.out, by rw [List.length_append]; simp only [List.length_cons, List.length_nil]; omega, B3.out, Z3.out, HE⟩
      case measure =>
       have := Hnn.out
       have := Hns.out
       rw [S.out.left, S3.out.left]
       omega
    ·have te : ((l[n].toNat : Int) == (e.toNat : Int)) = false := by
      simp only [beq_eq_false_iff_ne, ne_eq]
      intro h
      exact hce (UInt8.toNat_inj.1 (by omega))
     by_cases hco : l[n] = o
     ·have to : ((l[n].toNat : Int) == (o.toNat : Int)) = true := by rw [hco]; simp
      have hx92 : l[n] ≠ 92 := by rw [hco]; exact ho92
      have t92' : ((l[n].toNat : Int) == 92) = false := u8_lit hx92
      clear t92
      have HE : Hid (X = (partS o e (d + 1) (rest l M.J n1)).map fun r => ((acc ++ [l[n]]) ++ r.1, r.2)) := Lh (by
       rw [hE.out, partS_open HJ.out hc hx92 hce hco, Option.map_map, hn1]
       congr 1; funext r; simp)
      obtain ⟨d1, hd1'⟩ : ∃ d1, d1 = d + 1 := ⟨_, rfl⟩
      have hw1 : IntKind.i64.wrap ((d : Int) + 1) = (d1 : Int) := by rw [IntKind.wrap_i64]; omega
      have hw2 : wrap64 ((d : Int) + 1) = (d1 : Int) := by simp only [wrap64]; omega
      have Hd := Lh hd1'
      rw [← hd1'] at HE
      generalize l[n] = x at *
      clear hE HB hc hx92 hce hesc hcond hlS hn1 hnl han hdn hacc hd1' hco
      go_wp2_with fail
      go_quiet (fail)
      go_wp2_with fail
      go_quiet (fail)
      go_wp2_with fail
      refine (HST.out _ n Hn47.out (S.out.gr ((Gr.refl wr).drewN _))).mono ?_
      rintro e1 w2 ⟨rfl, hS2, hb2⟩
      rw [← Hn1.out] at hS2
      have K2 := Lh ((But.of_gr (P := P) ((Gr.refl wr).drewN _)).trans hb2)
      have Z2 : Hid (w.heap.size + 1 ≤ w2.heap.size) := Lh (Nat.le_trans Z.out K2.out.size)
      have B2 := Lh (Bu.out.trans K2.out)
      have L2 := Lh (Bld.but Bl.out hPB K2.out)
      have S2 := Lh hS2
      clear hS2 hb2 K2 c0 c1 c2 c3 c4 c5 c6 c7 cf q0 q1 q2 Bu Bl Z
      obtain ⟨c0, c1, c2, c3, c4, c5, c6, c7, cf⟩ := S2.out.cells
      obtain ⟨q0, q1, q2⟩ := (HQ.out.but B2.out hQP).cells
      go_wp2_with fail
      go_quiet (fail)
      go_wp2_with fail
      refine (bld_byte x (Bld.but L2.out hPB (But.of_gr ((Gr.refl w2).drewN _))) HBd.out (by have := Z2.out; simp; omega)).mono ?_
      rintro e3 w3 ⟨rfl, hl3, hb3, _⟩
      have S3 := Lh ((S2.out.gr ((Gr.refl w2).drewN _)).below hb3 hPB hMB)
      have B3 := Lh ((B2.out.trans (But.of_gr ((Gr.refl w2).drewN _))).below hb3 (Nat.le_refl _))
      have L3 := Lh hl3
      have Z3 : Hid (w.heap.size + 1 ≤ w3.heap.size) := Lh (Nat.le_trans Z2.out (Nat.le_trans (by simp) hb3.size))
      clear hl3 hb3 L2 S2 B2 Z2 c0 c1 c2 c3 c4 c5 c6 c7 cf q0 q1 q2
      clear hw1 hw2
      go_wp2
      go_roundw
      case rel =>
       have := Hnn.out
       have := Han.out
       have := HAc.out
       have := Hdn.out
       have := Hd.out
       exact ⟨d1, n1, acc ++ [x], rfl, by omega, by omega, Hn1l.out, S3.out, L3.out, by rw [List.length_append]; simp only [List.length_cons, List.length_nil]; omega, B3.out, Z3.out, HE⟩
      case measure =>
       have := Hnn.out
       have := Hns.out
       rw [S.out.left, S3.out.left]
       omega
     ·have to : ((l[n].toNat : Int) == (o.toNat : Int)) = false := by
       simp only [beq_eq_false_iff_ne, ne_eq]
       intro h
       exact hco (UInt8.toNat_inj.1 (by omega))
      have HE : Hid (X = (partS o e d (rest l M.J n1)).map fun r => ((acc ++ [l[n]]) ++ r.1, r.2)) := Lh (by
       rw [hE.out, partS_else HJ.out hc hcond hce hco, Option.map_map, hn1]
       congr 1; funext r; simp)
      generalize l[n] = x at *
      clear hE HB hc hce hesc hcond hlS hn1 hnl han hdn hacc hco
      rcases t92 with t92 | ⟨t92, t93, t94⟩
      all_goals
       go_wp2_with fail
       go_quiet (fail)
       go_wp2_with fail
       go_quiet (fail)
       go_wp2_with fail
       refine (HST.out _ n Hn47.out (S.out.gr ((Gr.refl wr).drewN _))).mono ?_
       rintro e1 w2 ⟨rfl, hS2, hb2⟩
       rw [← Hn1.out] at hS2
       have K2 := Lh ((But.of_gr (P := P) ((Gr.refl wr).drewN _)).trans hb2)
       have Z2 : Hid (w.heap.size + 1 ≤ w2.heap.size) := Lh (Nat.le_trans Z.out K2.out.size)
       have B2 := Lh (Bu.out.trans K2.out)
       have L2 := Lh (Bld.but Bl.out hPB K2.out)
       have S2 := Lh hS2
       clear hS2 hb2 K2 c0 c1 c2 c3 c4 c5 c6 c7 cf q0 q1 q2 Bu Bl Z
       obtain ⟨c0, c1, c2, c3, c4, c5, c6, c7, cf⟩ := S2.out.cells
       obtain ⟨q0, q1, q2⟩ := (HQ.out.but B2.out hQP).cells
       go_wp2_with fail
       go_quiet (fail)
       go_wp2_with fail
       refine (bld_byte x (Bld.but L2.out hPB (But.of_gr ((Gr.refl w2).drewN _))) HBd.out (by have := Z2.out; simp; omega)).mono ?_
       rintro e3 w3 ⟨rfl, hl3, hb3, _⟩
       have S3 := Lh ((S2.out.gr ((Gr.refl w2).drewN _)).below hb3 hPB hMB)
       have B3 := Lh ((B2.out.trans (But.of_gr ((Gr.refl w2).drewN _))).below hb3 (Nat.le_refl _))
       have L3 := Lh hl3
       have Z3 : Hid (w.heap.size + 1 ≤ w3.heap.size) := Lh (Nat.le_trans Z2.out (Nat.le_trans (by simp) hb3.size))
       clear hl3 hb3 L2 S2 B2 Z2 c0 c1 c2 c3 c4 c5 c6 c7 cf q0 q1 q2
       go_wp2
       go_roundw
       case rel =>
        have := Hnn.out
        have := Han.out
        have := HAc.out
        have := Hdn.out
        exact ⟨d, n1, acc ++ [x], rfl, by omega, by omega, Hn1l.out, S3.out, L3.out, by rw [List.length_append]; simp only [List.length_cons, List.length_nil]; omega, B3.out, Z3.out, HE⟩
       case measure =>
        have := Hnn.out
        have := Hns.out
        rw [S.out.left, S3.out.left]
        omega
  ·have g1 : decide (n < s.size) = false := by rw [Hsz.out]; simpa using hc
   have g2 : decide ((n : Int) < (s.size : Int)) = false := by rw [Hsz.out]; simp; omega
   have HE : Hid (X = none) := Lh (by rw [hE.out, rest_nil (by omega), partS_nil]; rfl)
   clear hE HB hc hnl han hdn hacc
   go_wp2_with fail
   go_quiet (fail)
   go_wp2_with fail
   refine ⟨rfl, ?_⟩
   rw [HE.out]
   exact ⟨⟨fr, Hfr.out, rfl⟩, Bu.out.trans (But.of_gr ((Gr.refl _).drewN _))⟩
end Go.Proofs.YthmopindibdhnaaGreatDoor.G
namespace Go.Proofs.YthmopindibdhnaaGreatDoor
open Go.RowKit Go.Shelf
theorem step_of {P : Program} {o : Oper} {ops : Array Oper} {a : Act} {w : World} {K : Act → World → Prop} {Q : Exit → Act → World → Prop} {E : Prop} (hg : o.guard = none) (h : Oper.wp P o a w K Q) :
  if Region.wanted o (yielded ops a.tmps) = true then Oper.wp P o a w K Q else E := by
 rw [if_pos (by simp [Region.wanted, hg])]; exact h
theorem newCellsAt {X : World} {g : Nat} (hg : X.heap.size = g) {l : List Value} {t : TypeId} {j : Nat} {u : Value} (h : l[j]? = some u) : (X.alloc (.cells l.toArray t)).cell? ((⟨g, 0, none⟩ : Addr).add j) = some u := by
 subst hg
 rw [Addr.add_lit, cell_of_row _ _ _ l.toArray t (0, 0) (heap_alloc_new X _), Nat.zero_add]
 simpa using h
theorem infoTok : (Tryz.prog.info? 42).map (fun i => (i.zero, i.size, i.bytes)) = some (some (.agg #[.int .i64 0, .int .i64 0, .string ⟨#[]⟩, .string ⟨#[]⟩, .string ⟨#[]⟩, .int .i64 0]), 6, 72) := by kernel_rfl
theorem infoBool : (Tryz.prog.info? 4).map (fun i => (i.zero, i.size, i.bytes)) = some (some (.bool false), 1, 1) := by kernel_rfl
def cellsT (l : List Tok) : List Value := l.flatMap Tok.cells
theorem cellsT_app (l m : List Tok) : cellsT (l ++ m) = cellsT l ++ cellsT m := by simp [cellsT]
abbrev OwnT (w : World) (base : Nat) (v : Value) (l : List Tok) : Prop := w.ownsRow base 42 6 v l.length (cellsT l)
abbrev OwnB (w : World) (base : Nat) (v : Value) (l : List Bool) : Prop := w.ownsRow base 4 1 v l.length (l.map Value.bool)
theorem own_beside {w w' : World} {base b2 : Nat} {e e2 : TypeId} {size s2 : Nat} {v v2 : Value} {n n2 : Nat} {xs x2 : List Value} (h : w.ownsRow base e size v n xs) (h2 : w.ownsRow b2 e2 s2 v2 n2 x2) (hne : e ≠ e2) (k : w.grownBy w' v2.ownBlock) : w'.ownsRow base e size v n xs := by
 obtain ⟨a1, a2⟩ := h
 refine ⟨a1, ?_⟩
 rcases a2 with a2 | ⟨g, cap, cur, e1, e3, e4, e5⟩
 ·exact .inl a2
 ·refine .inr ⟨g, cap, cur, e1, e3, ?_, e5⟩
  rw [k.block _ (Ag e4).1 ?_]; exact e4
  intro he
  rcases h2.2 with ⟨rfl, _⟩ | ⟨g2, cap2, cur2, rfl, _, f4, _⟩
  ·cases he
  ·simp [Value.ownBlock] at he
   subst he
   rw [e4] at f4; injection f4 with f4; injection f4 with _ f5 _; exact hne f5
theorem own_set {w : World} {base : Nat} {e : TypeId} {size : Nat} {v : Value} {n : Nat} {xs : List Value} (h : w.ownsRow base e size v n xs) {g : Nat} (hg : some g ≠ v.ownBlock) (j : Nat) (u : Value) : (w.setCell ⟨g, j, none⟩ u).ownsRow base e size v n xs := by
 obtain ⟨a1, a2⟩ := h
 refine ⟨a1, ?_⟩
 rcases a2 with a2 | ⟨b, cap, cur, rfl, e3, e4, e5⟩
 ·exact .inl a2
 ·refine .inr ⟨b, cap, cur, rfl, e3, ?_, e5⟩
  have : g ≠ b := fun e => hg (by rw [e]; rfl)
  simp [World.setCell, Array.getElem?_modify, this, e4]
theorem own_but {w w' : World} {P base : Nat} {e : TypeId} {size : Nat} {v : Value} {n : Nat} {xs : List Value} (h : w.ownsRow base e size v n xs) (k : But P w w') (hP : P < base) : w'.ownsRow base e size v n xs := by
 obtain ⟨a1, a2⟩ := h
 refine ⟨a1, ?_⟩
 rcases a2 with a2 | ⟨g, cap, cur, e1, e3, e4, e5⟩
 ·exact .inl a2
 ·refine .inr ⟨g, cap, cur, e1, e3, ?_, e5⟩
  rw [k.block _ (Ag e4).1 (fun e => by injection e with e; omega)]; exact e4
theorem own_ge {w : World} {base : Nat} {e : TypeId} {size : Nat} {v : Value} {n : Nat} {xs : List Value} (h : w.ownsRow base e size v n xs) {i : Nat} (hi : v.ownBlock = some i) : base ≤ i ∧ i < w.heap.size ∧ ∃ cur, w.heap[i]? = some (.cells cur e (0, 0)) := by
 rcases h.2 with ⟨rfl, _⟩ | ⟨g, cap, cur, rfl, e3, e4, _⟩
 ·cases hi
 ·simp [Value.ownBlock] at hi
  subst hi
  exact ⟨e3, (Ag e4).1, cur, e4⟩
theorem Sc.grown {w w' : World} {P M : Nat} {s : ByteArray} {at_ en : Nat} {tm : Bool} {tv bv ov : Value} {r : Option Nat} (h : Sc w P M s at_ en tm tv bv ov) (k : w.grownBy w' r) (h1 : r ≠ some P) (h2 : r ≠ some M) : Sc w' P M s at_ en tm tv bv ov :=
 ⟨by rw [k.block _ h.lt.1 (fun e => h1 e.symm)]; exact h.blk, by rw [k.block _ h.lt.2 (fun e => h2 e.symm)]; exact h.mp, h.ne⟩
variable {w : World} {P M : Nat} {s : ByteArray} {at_ en b : Nat} {tm : Bool} {tv bv ov : Value}
structure Got (w : World) (base : Nat) (tv bv : Value) (toks : List Tok) (terms : List Bool) : Prop where
 tokR : OwnT w base tv toks
 termR : OwnB w base bv terms
structure Fr (P base : Nat) (w w' : World) : Prop where
 os : w'.os = w.os
 tape : w'.tape = w.tape
 output : w'.output = w.output
 size : w.heap.size ≤ w'.heap.size
 block : ∀ k, k < base → k ≠ P → w'.heap[k]? = w.heap[k]?
theorem Fr.refl (P base : Nat) (w : World) : Fr P base w w := ⟨rfl, rfl, rfl, Nat.le_refl _, fun _ _ _ => rfl⟩
theorem Fr.but {base : Nat} {a w w' : World} (h : Fr P base a w) (k : But P w w') (hb : base ≤ w.heap.size) : Fr P base a w' :=
 ⟨k.os.trans h.os, k.tape.trans h.tape, k.output.trans h.output, Nat.le_trans h.size k.size, fun i h1 h2 => (k.block i (by omega) (fun e => h2 (by injection e))).trans (h.block i h1 h2)⟩
theorem Fr.grow {base : Nat} {a w w' : World} {r : Option Nat} (h : Fr P base a w) (k : w.grownBy w' r) (hb : base ≤ w.heap.size) (hr : ∀ i, r = some i → base ≤ i) : Fr P base a w' :=
 ⟨k.os.trans h.os, k.tape.trans h.tape, k.output.trans h.output, Nat.le_trans h.size k.size, fun i h1 h2 => (k.block i (by omega) (fun e => by have h3 := hr i e.symm; omega)).trans (h.block i h1 h2)⟩
theorem own_apart {w : World} {base : Nat} {e : TypeId} {size : Nat} {v : Value} {n : Nat} {xs : List Value} (h : w.ownsRow base e size v n xs) {i : Nat} (hi : i < base ∨ w.heap.size ≤ i) : v.ownBlock ≠ some i := fun e => by
 have := own_ge h e; omega
theorem read5 {w X w' : World} {P M g base : Nat} {s : ByteArray} {a en : Nat} {tm : Bool} {tv bv ov v' : Value} {n n2 : Nat} {xs ys zs : List Value} {o : Obj} {gc : Array Value} (SX : Sc X P M s a en tm tv bv ov) (hPb : P < base) (hMb : M < base) (hbw : base ≤ w.heap.size) (BX : But P w X)
  (ow : w.ownsRow base 42 6 tv n xs) (OB : w.ownsRow base 4 1 bv n2 ys) (hg : w.heap.size ≤ g) (K : X.heap[g]? = some (.cells gc 42 (0, 0)))
  (h1 : w'.ownsRow base 42 6 v' (n + 1) zs) (h2 : (X.drew.alloc o).grownBy w' tv.ownBlock) :
  Sc (w'.setCell ⟨P, 4, none⟩ v') P M s a en tm v' bv ov ∧ (w'.setCell ⟨P, 4, none⟩ v').ownsRow base 42 6 v' (n + 1) zs ∧ (w'.setCell ⟨P, 4, none⟩ v').ownsRow base 4 1 bv n2 ys ∧ (w'.setCell ⟨P, 4, none⟩ v').heap[g]? = some (.cells gc 42 (0, 0)) ∧ Fr P base w (w'.setCell ⟨P, 4, none⟩ v') ∧ g < (w'.setCell ⟨P, 4, none⟩ v').heap.size := by
 have GX : Gr X (X.drew.alloc o) := ((Gr.refl X).drew).alloc o
 have hP1 : tv.ownBlock ≠ some P := own_apart ow (.inl hPb)
 have hM1 : tv.ownBlock ≠ some M := own_apart ow (.inl hMb)
 have hP2 : some P ≠ v'.ownBlock := fun e => own_apart h1 (.inl hPb) e.symm
 have S1 := (SX.gr GX).grown h2 hP1 hM1
 have ob1 := own_beside (ownsRow_gr (own_but OB BX hPb) GX) (ownsRow_gr (own_but ow BX hPb) GX) (by decide) h2
 have ob2 : some P ≠ bv.ownBlock := fun e => own_apart OB (.inl hPb) e.symm
 have kg : w'.heap[g]? = some (.cells gc 42 (0, 0)) := by
  rw [h2.block _ (Nat.lt_of_lt_of_le (Ag K).1 GX.size) (fun e => own_apart ow (.inr hg) e.symm), GX.block _ (Ag K).1]; exact K
 have hgP : P ≠ g := by omega
 have fr := Fr.but (Fr.grow (Fr.but (Fr.but (Fr.refl P base w) BX hbw) (But.of_gr GX) (Nat.le_trans hbw BX.size)) h2 (Nat.le_trans hbw (Nat.le_trans BX.size GX.size)) (fun i e => (own_ge ow e).1)) (But.set (P := P) 4 v') (Nat.le_trans hbw (Nat.le_trans BX.size (Nat.le_trans GX.size h2.size)))
 exact ⟨S1.setTv v', own_set h1 hP2 4 v', own_set ob1 ob2 4 v', by simp [World.setCell, Array.getElem?_modify, hgP, kg], fr, by simpa [World.setCell] using (Ag kg).1⟩
theorem read6 {w X w' : World} {P M g base : Nat} {s : ByteArray} {a en : Nat} {tm : Bool} {tv bv ov v' : Value} {n n2 : Nat} {xs ys zs : List Value} {o : Obj} {gc : Array Value} (SX : Sc X P M s a en tm tv bv ov) (hPb : P < base) (hMb : M < base) (hbw : base ≤ w.heap.size) (FX : Fr P base w X)
  (OT : X.ownsRow base 42 6 tv n xs) (OB : X.ownsRow base 4 1 bv n2 ys) (K : X.heap[g]? = some (.cells gc 42 (0, 0))) (hgP : P ≠ g)
  (h1 : w'.ownsRow base 4 1 v' (n2 + 1) zs) (h2 : (X.drew.alloc o).grownBy w' bv.ownBlock) :
  Sc (w'.setCell ⟨P, 5, none⟩ v') P M s a en tm tv v' ov ∧ (w'.setCell ⟨P, 5, none⟩ v').ownsRow base 42 6 tv n xs ∧ (w'.setCell ⟨P, 5, none⟩ v').ownsRow base 4 1 v' (n2 + 1) zs ∧ (w'.setCell ⟨P, 5, none⟩ v').heap[g]? = some (.cells gc 42 (0, 0)) ∧ Fr P base w (w'.setCell ⟨P, 5, none⟩ v') ∧ g < (w'.setCell ⟨P, 5, none⟩ v').heap.size := by
 have GX : Gr X (X.drew.alloc o) := ((Gr.refl X).drew).alloc o
 have hbX : base ≤ X.heap.size := Nat.le_trans hbw FX.size
 have hP1 : bv.ownBlock ≠ some P := own_apart OB (.inl hPb)
 have hM1 : bv.ownBlock ≠ some M := own_apart OB (.inl hMb)
 have hP2 : some P ≠ v'.ownBlock := fun e => own_apart h1 (.inl hPb) e.symm
 have S1 := (SX.gr GX).grown h2 hP1 hM1
 have ot1 := own_beside (ownsRow_gr OT GX) (ownsRow_gr OB GX) (by decide) h2
 have ot2 : some P ≠ tv.ownBlock := fun e => own_apart OT (.inl hPb) e.symm
 have hgo : some g ≠ bv.ownBlock := fun e => by
  obtain ⟨_, _, cur, hc⟩ := own_ge OB e.symm
  rw [K] at hc; injection hc with hc; injection hc with _ hc _; exact absurd hc (by decide)
 have kg : w'.heap[g]? = some (.cells gc 42 (0, 0)) := by
  rw [h2.block _ (Nat.lt_of_lt_of_le (Ag K).1 GX.size) hgo, GX.block _ (Ag K).1]; exact K
 have fr := Fr.but (Fr.grow (Fr.but FX (But.of_gr GX) hbX) h2 (Nat.le_trans hbX GX.size) (fun i e => (own_ge OB e).1)) (But.set (P := P) 5 v') (Nat.le_trans hbX (Nat.le_trans GX.size h2.size))
 exact ⟨S1.setBv v', own_set ot1 ot2 5 v', own_set h1 hP2 5 v', by simp [World.setCell, Array.getElem?_modify, hgP, kg], fr, by simpa [World.setCell] using (Ag kg).1⟩
theorem read7 {w X w' : World} {P M base : Nat} {s : ByteArray} {a en : Nat} {tm t2 : Bool} {tv bv ov : Value} {n n2 : Nat} {xs ys : List Value} (SX : Sc X P M s a en tm tv bv ov) (hPb : P < base) (hbw : base ≤ w.heap.size) (FX : Fr P base w X)
  (OT : X.ownsRow base 42 6 tv n xs) (OB : X.ownsRow base 4 1 bv n2 ys) (G : Gr X.drew w') :
  Sc (w'.setCell ⟨P, 3, none⟩ (.bool t2)) P M s a en t2 tv bv ov ∧ (w'.setCell ⟨P, 3, none⟩ (.bool t2)).ownsRow base 42 6 tv n xs ∧ (w'.setCell ⟨P, 3, none⟩ (.bool t2)).ownsRow base 4 1 bv n2 ys ∧ Fr P base w (w'.setCell ⟨P, 3, none⟩ (.bool t2)) := by
 have GX : Gr X w' := ((Gr.refl X).drew).trans G
 have hbX : base ≤ X.heap.size := Nat.le_trans hbw FX.size
 have hP1 : some P ≠ tv.ownBlock := fun e => own_apart OT (.inl hPb) e.symm
 have hP2 : some P ≠ bv.ownBlock := fun e => own_apart OB (.inl hPb) e.symm
 have fr := Fr.but (Fr.but FX (But.of_gr GX) hbX) (But.set (P := P) 3 (.bool t2)) (Nat.le_trans hbX GX.size)
 exact ⟨(SX.gr GX).setTm t2, own_set (ownsRow_gr OT GX) hP1 3 _, own_set (ownsRow_gr OB GX) hP2 3 _, fr⟩
theorem read8 {w X : World} {P M base : Nat} {s : ByteArray} {b en : Nat} {tm : Bool} {tv bv ov : Value} {toks : List Tok} {terms : List Bool} {tk : Tok} {t0 : Bool} (SX : Sc X P M s b en tm tv bv ov) (hPb : P < base) (hbw : base ≤ w.heap.size) (FX : Fr P base w X)
  (OT : X.ownsRow base 42 6 tv (toks.length + 1) (cellsT toks ++ tk.cells)) (OB : X.ownsRow base 4 1 bv (terms.length + 1) (terms.map Value.bool ++ [.bool t0])) :
  Sc (X.setCell ⟨P, 2, none⟩ (.int .i64 b)) P M s b b tm tv bv ov ∧ Got (X.setCell ⟨P, 2, none⟩ (.int .i64 b)) base tv bv (toks ++ [tk]) (terms ++ [t0]) ∧ Fr P base w (X.setCell ⟨P, 2, none⟩ (.int .i64 b)) := by
 have hbX : base ≤ X.heap.size := Nat.le_trans hbw FX.size
 have hP1 : some P ≠ tv.ownBlock := fun e => own_apart OT (.inl hPb) e.symm
 have hP2 : some P ≠ bv.ownBlock := fun e => own_apart OB (.inl hPb) e.symm
 refine ⟨SX.setEn b, ⟨?_, ?_⟩, Fr.but FX (But.set (P := P) 2 (.int .i64 b)) hbX⟩
 ·have := own_set OT hP1 2 (.int .i64 b)
  simpa [OwnT, cellsT] using this
 ·have := own_set OB hP2 2 (.int .i64 b)
  simpa [OwnB] using this
def Token (P M : Nat) (s : ByteArray) (a b en : Nat) (tm : Bool) (tv bv ov : Value) (tk : Tok) : Prop := Reads 82 P M s a b en tm tv bv ov tk
set_option maxRecDepth 100000 in
set_option maxHeartbeats 4000000 in
theorem read_p {base : Nat} {toks : List Tok} {terms : List Bool} {k : Int} {tx rp mo : ByteArray} (h : Sc w P M s at_ en tm tv bv ov) (hG : Got w base tv bv toks terms) (hPb : P < base) (hMb : M < base) (hbw : base ≤ w.heap.size)
  (hT : Token P M s at_ b en tm tv bv ov ⟨k, 0, tx, rp, mo, 0⟩) (h1 : k = 3 → tx.data.toList ≠ [123]) (h2 : k = 3 → tx.data.toList ≠ [125]) (hn : toks.length ≤ 4000 ∧ terms.length ≤ 4000) :
  Calls Tryz.prog 60 #[.pointer (some ⟨P, 0, none⟩)] w fun e w' => ∃ tv' bv', e = .returned (.tuple #[]) ∧ Sc w' P M s b b (behindB k tx.data.toList 0 tm) tv' bv' ov ∧ Got w' base tv' bv' (toks ++ [⟨k, at_, tx, rp, mo, 0⟩]) (terms ++ [tm]) ∧ Fr P base w w' := by
 have H := Lh h
 have HT := Lh hT
 unfold Token Reads at HT
 rw [show Tok.val ⟨k, 0, tx, rp, mo, 0⟩ = .agg #[.int .i64 k, .int .i64 0, .string tx, .string rp, .string mo, .int .i64 0] from rfl] at HT
 have HB := Lh (fun (hk : k = 3) d w => brace_no (P := P) tx d (h1 hk) (h2 hk) w)
 have HH := Lh (fun w => behind_p k (at_ : Int) tx rp mo 0 tm w)
 have Ow := Lh hG
 obtain ⟨c0, c1, c2, c3, c4, c5, c6, c7, cf⟩ := h.cells
 clear h hT h1 h2 hG
 go_enter Tryz.func60, Tryz.ntmps60
 go_wp2_with fail
 go_quiet (fail)
 clear c0 c1 c2 c3 c4 c5 c6 c7 cf
 go_wp2_with fail
 refine (HT.out _ (H.out.gr ((Gr.refl w).drewN _))).mono ?_
 rintro e w2 ⟨rfl, hS2, hb2⟩
 have S2 := Lh hS2
 have B2 := Lh ((But.of_gr (P := P) ((Gr.refl w).drewN nq)).trans hb2)
 clear hS2 hb2 HT
 by_cases hk3 : k = 3
 ·subst hk3
  have HB3 := Lh (HB.out rfl)
  clear HB
  go_wp2_with fail
  refine (HB3.out _ _).mono ?_
  rintro e w3 ⟨rfl, rfl⟩
  go_wp2_with fail
  generalize hX : w2.alloc (.cells #[.int .i64 3, .int .i64 (at_ : Int), .string tx, .string rp, .string mo, .int .i64 0] 42) = X
  have GX : Gr w2 X := by rw [← hX]; exact (Gr.refl w2).alloc _
  have SX := Lh (S2.out.gr GX)
  have BX := Lh (B2.out.trans (But.of_gr GX))
  have KX : Hid (X.heap[w2.heap.size]? = some (.cells #[.int .i64 3, .int .i64 (at_ : Int), .string tx, .string rp, .string mo, .int .i64 0] 42 (0, 0))) := Lh (by rw [← hX]; exact heap_alloc_new w2 _)
  have hgB : w.heap.size ≤ w2.heap.size := B2.out.size
  clear hX GX S2 B2
  obtain ⟨kc, kf⟩ := cellsOf KX.out
  have t0 := kc 0
  have t1 := kc 1
  have t2 := kc 2
  have t3 := kc 3
  have t4 := kc 4
  have t5 := kc 5
  simp at t0 t1 t2 t3 t4 t5
  clear kc
  obtain ⟨c0, c1, c2, c3, c4, c5, c6, c7, cf⟩ := SX.out.cells
  obtain ⟨_, _, _, b3, b4, b5, _, _, _⟩ := (SX.out.gr ((Gr.refl X).alloc (.cells #[.int .i64 3, .int .i64 (at_ : Int), .string tx, .string rp, .string mo, .int .i64 0] 42))).cells
  have OT := Lh (own_but Ow.out.tokR BX.out hPb)
  have OB := Lh (own_but Ow.out.termR BX.out hPb)
  have hXs := Lh BX.out.size
  obtain ⟨ti, hti, htz, hts, htb⟩ := info_parts infoTok
  obtain ⟨bi, hbi, hbz, hbs, hbb⟩ := info_parts infoBool
  go_cut [] from 31 (fun wx => ∃ tv', Sc wx P M s b en tm tv' bv ov ∧ wx.ownsRow base 42 6 tv' (toks.length + 1) (cellsT toks ++ #[.int .i64 3, .int .i64 (at_ : Int), .string tx, .string rp, .string mo, .int .i64 0].toList) ∧ OwnB wx base bv terms ∧ wx.heap[w2.heap.size]? = some (.cells #[.int .i64 3, .int .i64 (at_ : Int), .string tx, .string rp, .string mo, .int .i64 0] 42 (0, 0)) ∧ Fr P base w wx ∧ w2.heap.size < wx.heap.size)
  case first =>
   go_region_law (refine step_of rfl (wp_append_own _ (.tmp 35) (.tmp 37) 28 rfl base 42 ti (.agg #[.int .i64 0, .int .i64 0, .string ⟨#[]⟩, .string ⟨#[]⟩, .string ⟨#[]⟩, .int .i64 0]) 6 72 Tryz.underlying28 hti htz hts htb rfl (by decide) _ _ _ rfl (ownsRow_gr OT.out (((Gr.refl X).drew).alloc _)) ⟨X.heap.size, 0, none⟩ 1 1 #[.int .i64 3, .int .i64 (at_ : Int), .string tx, .string rp, .string mo, .int .i64 0].toList rfl rfl (fun j u hj => newCellsAt (by simp) hj) (by simp [Value.oneCell']) (by unfold maxLen; omega) (by omega) (by have := hXs.out; simp; omega) fun v' w' h1 h2 _ => ?_); obtain ⟨ao, cap, rfl⟩ := ownsRow_shape h1; have HR5 := Lh (read5 SX.out hPb hMb hbw BX.out Ow.out.tokR Ow.out.termR hgB KX.out h1 h2); obtain ⟨_, _, _, _, d4, _, _, _, df⟩ := ((SX.out.gr (((Gr.refl X).drew).alloc _)).grown h2 (own_apart Ow.out.tokR (.inl hPb)) (own_apart Ow.out.tokR (.inl hMb))).cells; clear h1 h2)
   all_goals
    go_wp2_with fail
    go_meet
    obtain ⟨a1, a2, a3, a4, a5, a6⟩ := HR5.out
    exact ⟨_, a1, a2, a3, a4, a5, a6⟩
  case rest =>
  obtain ⟨tv', d1, d2, d3, d4, d5, d6⟩ := hcut
  have SW := Lh d1
  have TW := Lh d2
  have BW := Lh d3
  have KW := Lh d4
  have FW := Lh d5
  have ZW := Lh d6
  clear d1 d2 d3 d4 d5 d6 KX SX BX OT OB t0 t1 t2 t3 t4 t5 kf c0 c1 c2 c3 c4 c5 c6 c7 cf b3 b4 b5 hXs
  obtain ⟨c0, c1, c2, c3, c4, c5, c6, c7, cf⟩ := SW.out.cells
  obtain ⟨_, _, _, b3, b4, b5, _, _, _⟩ := (SW.out.gr ((Gr.refl wc).alloc (.cells #[.bool tm] 4))).cells
  have hwcs := Lh FW.out.size
  go_wp2_with fail
  go_cut [] from 41 (fun wx => ∃ bv', Sc wx P M s b en tm tv' bv' ov ∧ wx.ownsRow base 42 6 tv' (toks.length + 1) (cellsT toks ++ #[.int .i64 3, .int .i64 (at_ : Int), .string tx, .string rp, .string mo, .int .i64 0].toList) ∧ wx.ownsRow base 4 1 bv' (terms.length + 1) (terms.map Value.bool ++ [.bool tm]) ∧ wx.heap[w2.heap.size]? = some (.cells #[.int .i64 3, .int .i64 (at_ : Int), .string tx, .string rp, .string mo, .int .i64 0] 42 (0, 0)) ∧ Fr P base w wx ∧ w2.heap.size < wx.heap.size)
  case first =>
   go_region_law (refine step_of rfl (wp_append_own _ (.tmp 45) (.tmp 50) 24 rfl base 4 bi (.bool false) 1 1 Tryz.underlying24 hbi hbz hbs hbb rfl (by decide) _ _ _ rfl (ownsRow_gr BW.out (((Gr.refl wc).drew).alloc _)) ⟨wc.heap.size, 0, none⟩ 1 1 [.bool tm] rfl rfl (fun j u hj => newCellsAt (by simp) hj) (by simp [Value.oneCell']) (by unfold maxLen; omega) (by omega) (by have := hwcs.out; simp; omega) fun v' w' h1 h2 _ => ?_); obtain ⟨ao, cap, rfl⟩ := ownsRow_shape h1; have HR6 := Lh (read6 SW.out hPb hMb hbw FW.out TW.out BW.out KW.out (by omega) h1 h2); obtain ⟨_, _, _, _, _, d5, _, _, df⟩ := ((SW.out.gr (((Gr.refl wc).drew).alloc _)).grown h2 (own_apart BW.out (.inl hPb)) (own_apart BW.out (.inl hMb))).cells; clear h1 h2)
   all_goals
    go_wp2_with fail
    go_meet
    obtain ⟨a1, a2, a3, a4, a5, a6⟩ := HR6.out
    exact ⟨_, a1, a2, a3, a4, a5, a6⟩
  case rest =>
  obtain ⟨bv', d1, d2, d3, d4, d5, d6⟩ := hcut
  clear SW TW BW KW FW ZW c0 c1 c2 c3 c4 c5 c6 c7 cf b3 b4 b5 hwcs
  have SW := Lh d1
  have TW := Lh d2
  have BW := Lh d3
  have KW := Lh d4
  have FW := Lh d5
  clear d1 d2 d3 d4 d5 d6
  obtain ⟨c0, c1, c2, c3, c4, c5, c6, c7, cf⟩ := SW.out.cells
  obtain ⟨kc, _⟩ := cellsOf KW.out
  have t0 := kc 0
  have t1 := kc 1
  have t2 := kc 2
  have t3 := kc 3
  have t4 := kc 4
  have t5 := kc 5
  simp at t0 t1 t2 t3 t4 t5
  clear kc
  go_wp2_with fail
  go_cut [] from 51 (fun wx => Sc wx P M s b en (behindB 3 tx.data.toList 0 tm) tv' bv' ov ∧ wx.ownsRow base 42 6 tv' (toks.length + 1) (cellsT toks ++ #[.int .i64 3, .int .i64 (at_ : Int), .string tx, .string rp, .string mo, .int .i64 0].toList) ∧ wx.ownsRow base 4 1 bv' (terms.length + 1) (terms.map Value.bool ++ [.bool tm]) ∧ Fr P base w wx)
  case first =>
   go_region_with (go_at_call 44; refine (HH.out _).mono ?_; rintro e9 w9 ⟨rfl, g9⟩; have G9 := Lh g9; clear g9; have S9 := Lh ((SW.out.gr ((Gr.refl _).drew)).gr G9.out); obtain ⟨_, _, _, d3, _, _, _, _, df⟩ := S9.out.cells)
   all_goals
    go_wp2_with fail
    go_meet
    exact read7 SW.out hPb hbw FW.out TW.out BW.out G9.out
  case rest =>
  clear SW TW BW KW FW c0 c1 c2 c3 c4 c5 c6 c7 cf t0 t1 t2 t3 t4 t5
  obtain ⟨d1, d2, d3, d4⟩ := hcut
  have SW := Lh d1
  have TW := Lh d2
  have BW := Lh d3
  have FW := Lh d4
  clear d1 d2 d3 d4
  obtain ⟨c0, c1, c2, c3, c4, c5, c6, c7, cf⟩ := SW.out.cells
  go_wp2_with fail
  go_end0
  obtain ⟨d1, d2, d3⟩ := read8 (tk := ⟨3, at_, tx, rp, mo, 0⟩) SW.out hPb hbw FW.out TW.out BW.out
  exact ⟨rfl, _, _, d1, d2, d3⟩
 ·have hkb : (k == 3) = false := by simpa using hk3
  go_wp2_with fail
  generalize hX : w2.alloc (.cells #[.int .i64 k, .int .i64 (at_ : Int), .string tx, .string rp, .string mo, .int .i64 0] 42) = X
  have GX : Gr w2 X := by rw [← hX]; exact (Gr.refl w2).alloc _
  have SX := Lh (S2.out.gr GX)
  have BX := Lh (B2.out.trans (But.of_gr GX))
  have KX : Hid (X.heap[w2.heap.size]? = some (.cells #[.int .i64 k, .int .i64 (at_ : Int), .string tx, .string rp, .string mo, .int .i64 0] 42 (0, 0))) := Lh (by rw [← hX]; exact heap_alloc_new w2 _)
  have hgB : w.heap.size ≤ w2.heap.size := B2.out.size
  clear hX GX S2 B2
  obtain ⟨kc, kf⟩ := cellsOf KX.out
  have t0 := kc 0
  have t1 := kc 1
  have t2 := kc 2
  have t3 := kc 3
  have t4 := kc 4
  have t5 := kc 5
  simp at t0 t1 t2 t3 t4 t5
  clear kc
  obtain ⟨c0, c1, c2, c3, c4, c5, c6, c7, cf⟩ := SX.out.cells
  obtain ⟨_, _, _, b3, b4, b5, _, _, _⟩ := (SX.out.gr ((Gr.refl X).alloc (.cells #[.int .i64 k, .int .i64 (at_ : Int), .string tx, .string rp, .string mo, .int .i64 0] 42))).cells
  have OT := Lh (own_but Ow.out.tokR BX.out hPb)
  have OB := Lh (own_but Ow.out.termR BX.out hPb)
  have hXs := Lh BX.out.size
  obtain ⟨ti, hti, htz, hts, htb⟩ := info_parts infoTok
  obtain ⟨bi, hbi, hbz, hbs, hbb⟩ := info_parts infoBool
  go_cut [] from 31 (fun wx => ∃ tv', Sc wx P M s b en tm tv' bv ov ∧ wx.ownsRow base 42 6 tv' (toks.length + 1) (cellsT toks ++ #[.int .i64 k, .int .i64 (at_ : Int), .string tx, .string rp, .string mo, .int .i64 0].toList) ∧ OwnB wx base bv terms ∧ wx.heap[w2.heap.size]? = some (.cells #[.int .i64 k, .int .i64 (at_ : Int), .string tx, .string rp, .string mo, .int .i64 0] 42 (0, 0)) ∧ Fr P base w wx ∧ w2.heap.size < wx.heap.size)
  case first =>
   go_region_law (refine step_of rfl (wp_append_own _ (.tmp 35) (.tmp 37) 28 rfl base 42 ti (.agg #[.int .i64 0, .int .i64 0, .string ⟨#[]⟩, .string ⟨#[]⟩, .string ⟨#[]⟩, .int .i64 0]) 6 72 Tryz.underlying28 hti htz hts htb rfl (by decide) _ _ _ rfl (ownsRow_gr OT.out (((Gr.refl X).drew).alloc _)) ⟨X.heap.size, 0, none⟩ 1 1 #[.int .i64 k, .int .i64 (at_ : Int), .string tx, .string rp, .string mo, .int .i64 0].toList rfl rfl (fun j u hj => newCellsAt (by simp) hj) (by simp [Value.oneCell']) (by unfold maxLen; omega) (by omega) (by have := hXs.out; simp; omega) fun v' w' h1 h2 _ => ?_); obtain ⟨ao, cap, rfl⟩ := ownsRow_shape h1; have HR5 := Lh (read5 SX.out hPb hMb hbw BX.out Ow.out.tokR Ow.out.termR hgB KX.out h1 h2); obtain ⟨_, _, _, _, d4, _, _, _, df⟩ := ((SX.out.gr (((Gr.refl X).drew).alloc _)).grown h2 (own_apart Ow.out.tokR (.inl hPb)) (own_apart Ow.out.tokR (.inl hMb))).cells; clear h1 h2)
   all_goals
    go_wp2_with fail
    go_meet
    obtain ⟨a1, a2, a3, a4, a5, a6⟩ := HR5.out
    exact ⟨_, a1, a2, a3, a4, a5, a6⟩
  case rest =>
  obtain ⟨tv', d1, d2, d3, d4, d5, d6⟩ := hcut
  have SW := Lh d1
  have TW := Lh d2
  have BW := Lh d3
  have KW := Lh d4
  have FW := Lh d5
  have ZW := Lh d6
  clear d1 d2 d3 d4 d5 d6 KX SX BX OT OB t0 t1 t2 t3 t4 t5 kf c0 c1 c2 c3 c4 c5 c6 c7 cf b3 b4 b5 hXs
  obtain ⟨c0, c1, c2, c3, c4, c5, c6, c7, cf⟩ := SW.out.cells
  obtain ⟨_, _, _, b3, b4, b5, _, _, _⟩ := (SW.out.gr ((Gr.refl wc).alloc (.cells #[.bool tm] 4))).cells
  have hwcs := Lh FW.out.size
  go_wp2_with fail
  go_cut [] from 41 (fun wx => ∃ bv', Sc wx P M s b en tm tv' bv' ov ∧ wx.ownsRow base 42 6 tv' (toks.length + 1) (cellsT toks ++ #[.int .i64 k, .int .i64 (at_ : Int), .string tx, .string rp, .string mo, .int .i64 0].toList) ∧ wx.ownsRow base 4 1 bv' (terms.length + 1) (terms.map Value.bool ++ [.bool tm]) ∧ wx.heap[w2.heap.size]? = some (.cells #[.int .i64 k, .int .i64 (at_ : Int), .string tx, .string rp, .string mo, .int .i64 0] 42 (0, 0)) ∧ Fr P base w wx ∧ w2.heap.size < wx.heap.size)
  case first =>
   go_region_law (refine step_of rfl (wp_append_own _ (.tmp 45) (.tmp 50) 24 rfl base 4 bi (.bool false) 1 1 Tryz.underlying24 hbi hbz hbs hbb rfl (by decide) _ _ _ rfl (ownsRow_gr BW.out (((Gr.refl wc).drew).alloc _)) ⟨wc.heap.size, 0, none⟩ 1 1 [.bool tm] rfl rfl (fun j u hj => newCellsAt (by simp) hj) (by simp [Value.oneCell']) (by unfold maxLen; omega) (by omega) (by have := hwcs.out; simp; omega) fun v' w' h1 h2 _ => ?_); obtain ⟨ao, cap, rfl⟩ := ownsRow_shape h1; have HR6 := Lh (read6 SW.out hPb hMb hbw FW.out TW.out BW.out KW.out (by omega) h1 h2); obtain ⟨_, _, _, _, _, d5, _, _, df⟩ := ((SW.out.gr (((Gr.refl wc).drew).alloc _)).grown h2 (own_apart BW.out (.inl hPb)) (own_apart BW.out (.inl hMb))).cells; clear h1 h2)
   all_goals
    go_wp2_with fail
    go_meet
    obtain ⟨a1, a2, a3, a4, a5, a6⟩ := HR6.out
    exact ⟨_, a1, a2, a3, a4, a5, a6⟩
  case rest =>
  obtain ⟨bv', d1, d2, d3, d4, d5, d6⟩ := hcut
  clear SW TW BW KW FW ZW c0 c1 c2 c3 c4 c5 c6 c7 cf b3 b4 b5 hwcs
  have SW := Lh d1
  have TW := Lh d2
  have BW := Lh d3
  have KW := Lh d4
  have FW := Lh d5
  clear d1 d2 d3 d4 d5 d6
  obtain ⟨c0, c1, c2, c3, c4, c5, c6, c7, cf⟩ := SW.out.cells
  obtain ⟨kc, _⟩ := cellsOf KW.out
  have t0 := kc 0
  have t1 := kc 1
  have t2 := kc 2
  have t3 := kc 3
  have t4 := kc 4
  have t5 := kc 5
  simp at t0 t1 t2 t3 t4 t5
  clear kc
  go_wp2_with fail
  go_cut [] from 51 (fun wx => Sc wx P M s b en (behindB k tx.data.toList 0 tm) tv' bv' ov ∧ wx.ownsRow base 42 6 tv' (toks.length + 1) (cellsT toks ++ #[.int .i64 k, .int .i64 (at_ : Int), .string tx, .string rp, .string mo, .int .i64 0].toList) ∧ wx.ownsRow base 4 1 bv' (terms.length + 1) (terms.map Value.bool ++ [.bool tm]) ∧ Fr P base w wx)
  case first =>
   go_region_with (go_at_call 44; refine (HH.out _).mono ?_; rintro e9 w9 ⟨rfl, g9⟩; have G9 := Lh g9; clear g9; have S9 := Lh ((SW.out.gr ((Gr.refl _).drew)).gr G9.out); obtain ⟨_, _, _, d3, _, _, _, _, df⟩ := S9.out.cells)
   all_goals
    go_wp2_with fail
    go_meet
    exact read7 SW.out hPb hbw FW.out TW.out BW.out G9.out
  case rest =>
  clear SW TW BW KW FW c0 c1 c2 c3 c4 c5 c6 c7 cf t0 t1 t2 t3 t4 t5
  obtain ⟨d1, d2, d3, d4⟩ := hcut
  have SW := Lh d1
  have TW := Lh d2
  have BW := Lh d3
  have FW := Lh d4
  clear d1 d2 d3 d4
  obtain ⟨c0, c1, c2, c3, c4, c5, c6, c7, cf⟩ := SW.out.cells
  go_wp2_with fail
  go_end0
  obtain ⟨d1, d2, d3⟩ := read8 (tk := ⟨k, at_, tx, rp, mo, 0⟩) SW.out hPb hbw FW.out TW.out BW.out
  exact ⟨rfl, _, _, d1, d2, d3⟩
end Go.Proofs.YthmopindibdhnaaGreatDoor
namespace Go.Proofs.YthmopindibdhnaaGreatDoor
open Go.RowKit Go.Shelf
variable {w : World} {P M : Nat} {s : ByteArray} {at_ en : Nat} {tm : Bool} {tv bv ov : Value}
set_option maxRecDepth 100000 in
set_option maxHeartbeats 1000000 in
theorem skip_p (h : Sc w P M s at_ en tm tv bv ov) (hs : s.size ≤ 140737488351232) (b : Nat) (hab : at_ ≤ b) (hb : b ≤ s.data.toList.length) (hbl : ∀ n (_ : at_ ≤ n) (_ : n < b) (h : n < s.data.toList.length), blkB (s.data.toList[n].toNat : Int) = true) (hst : ∀ (h : b < s.data.toList.length), blkB (s.data.toList[b].toNat : Int) = false ∧ s.data.toList[b] ≠ 35) :
  Calls Tryz.prog 59 #[.pointer (some ⟨P, 0, none⟩)] w fun e w' => e = .returned (.bool (decide (b < s.data.toList.length))) ∧ Sc w' P M s b en tm tv bv ov ∧ But P w w' := by
 have H := Lh h
 obtain ⟨l, hl⟩ : ∃ l, l = s.data.toList := ⟨_, rfl⟩
 have hsz : s.size = l.length := by rw [hl, ← sizeL]
 have HB := Lh (fun n (h : n < s.size) (h' : n < l.length) => (show s[n] = l[n] by subst hl; exact byteE s n h h'))
 have HST := Lh (fun (W : World) (k : Nat) (hk : k ≤ 140737488351232) (hS : Sc W P M s k en tm tv bv ov) => step_p hS hk)
 have HK := Lh (fun x w => blk_p x w)
 rw [← hl] at hb ⊢
 have HL : Hid (∀ n (_ : at_ ≤ n) (_ : n < b) (h : n < l.length), blkB (l[n].toNat : Int) = true) := Lh (by subst hl; exact hbl)
 have HT : Hid (∀ (h : b < l.length), blkB (l[b].toNat : Int) = false ∧ l[b] ≠ 35) := Lh (by subst hl; exact hst)
 have Hsz := Lh hsz
 have Hb := Lh hb
 have HR : Hid (decide (b < l.length) = decide (b < l.length)) := Lh rfl
 generalize hRR : decide (b < l.length) = R at *
 have HR2 : Hid (R = decide (b < l.length)) := Lh hRR.symm
 clear h hl hsz hbl hst hb HR hRR
 go_enter Tryz.func59, Tryz.ntmps59
 go_wp2_with fail
 go_loopw [3] (fun _ wr => ∃ n : Nat, at_ ≤ n ∧ n ≤ b ∧ Sc wr P M s n en tm tv bv ov ∧ But P w wr) (fun _ wr => atLeft s.size P wr)
 case atStart => exact ⟨at_, Nat.le_refl _, hab, H.out, But.refl P w⟩
 case round =>
  obtain ⟨n, han, hnb, hS, hBu⟩ := hrel
  have S := Lh hS
  have Bu := Lh hBu
  clear hS hBu
  obtain ⟨c0, c1, c2, c3, c4, c5, c6, c7, cf⟩ := S.out.cells
  have C1 := Lh c1
  have Hab := Lh hab
  have Han := Lh han
  have Hnb := Lh hnb
  by_cases hc : n < l.length
  ·have hsn : n < s.size := by rw [Hsz.out]; exact hc
   have hc' : (n : Int) < (s.size : Int) := by omega
   have ex := HB.out n hsn hc
   have hk : n ≤ 140737488351232 := by omega
   by_cases hb1 : n < b
   ·have eb := HL.out n han hb1 hc
    have Hb1 := Lh hb1
    have Hk := Lh hk
    have Hsn := Lh hsn
    generalize l[n] = x at *
    clear hab han hnb hb1 hk HL HT HB hc
    go_wp2_with fail
    go_quiet (fail)
    go_wp2_with fail
    go_quiet (fail)
    go_wp2_with fail
    refine (HK.out _ _).mono ?_
    rintro e w2 ⟨rfl, rfl⟩
    go_wp2_with fail
    refine (HST.out _ n Hk.out (S.out.gr ((Gr.refl _).drewN _))).mono ?_
    rintro e w2 ⟨rfl, hS2, hb2⟩
    have S2 := Lh hS2
    have Bu2 := Lh hb2
    clear hS2 hb2
    go_wp2_with fail
    go_roundw
    case rel => have := Han.out; have := Hb1.out; exact ⟨n + 1, by omega, by omega, S2.out, (Bu.out.trans (But.of_gr ((Gr.refl _).drewN _))).trans Bu2.out⟩
    case measure =>
     have e1 := C1.out
     have e2 := S2.out.cells.2.1
     have := Hsn.out
     simp only [atLeft, e1, e2]
     omega
   ·obtain rfl : n = b := by omega
    obtain ⟨t0, t1⟩ := HT.out hc
    have t2 : ((l[n].toNat : Int) == 35) = false := by
     simp only [beq_eq_false_iff_ne, ne_eq]
     intro h
     exact t1 (UInt8.toNat_inj.1 (by simpa using Int.ofNat.inj h))
    have hR : decide (n < l.length) = true := by simpa using hc
    have E : Hid (R = true) := Lh (by rw [HR2.out, hR])
    generalize l[n] = x at *
    clear hab han hnb hb1 hk HL HT HB hc hR t1 HR2 Hb Hab Han Hnb
    go_wp2_with fail
    go_quiet (fail)
    go_wp2_with fail
    go_quiet (fail)
    go_wp2_with fail
    refine (HK.out _ _).mono ?_
    rintro e w2 ⟨rfl, rfl⟩
    go_wp2_with fail
    go_ret
    rw [E.out]
    exact ⟨rfl, S.out.gr ((Gr.refl _).drewN _), Bu.out.trans (But.of_gr ((Gr.refl _).drewN _))⟩
  ·have hnl : n = l.length := by have := Hb.out; omega
   have hbl : b = n := by have := Hb.out; omega
   have hR : decide (b < l.length) = false := by simp; omega
   have g1 : decide (n < s.size) = false := by rw [Hsz.out]; simp; omega
   have g2 : decide ((n : Int) < (s.size : Int)) = false := by rw [Hsz.out]; simp; omega
   have E : Hid (R = false) := Lh (by rw [HR2.out, hR])
   subst hbl
   clear hnl hR HR2 hc hab han hnb HL HT HB Hb Hab Han Hnb
   go_wp2_with fail
   go_quiet (fail)
   go_wp2_with fail
   go_ret
   rw [E.out]
   exact ⟨rfl, S.out.gr ((Gr.refl _).drewN _), Bu.out.trans (But.of_gr ((Gr.refl _).drewN _))⟩
end Go.Proofs.YthmopindibdhnaaGreatDoor
