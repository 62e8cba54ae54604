/- GPart -/
import Derived.Test.YthmopindibdhnaaDoorM07
import Derived.Test.YthmopindibdhnaaDoorM08
namespace Go.Proofs.YthmopindibdhnaaDoor.G
open Go.RowKit Go.Shelf Go.Maps
theorem map_none {α β : Type} {f : α → β} {X : Option α} (h : X = none) : X.map f = none := by rw [h]; rfl
section
variable {l : List UInt8} {J : Nat → Option Nat} {o e : UInt8} {d n : Nat}
theorem partS_nil : partS o e d [] = none := by rw [partS]
theorem partS_one (x : Nat × UInt8) : partS o e d [x] = if x.2 = e ∧ d = 0 then some ([], []) else none := by rw [partS]
theorem partS_esc (hJ : JOk l J) (h : n < l.length) (h2 : nx J n < l.length) (hc : l[n] = 92) : partS o e d (rest l J n) = (partS o e d (rest l J (nx J (nx J n)))).map fun r => (l[n] :: l[nx J n] :: r.1, r.2) := by
  rw [rest_cons hJ h, rest_cons hJ h2, partS, if_pos hc]
theorem partS_end0 (hJ : JOk l J) (h : n < l.length) (hb : l[n] ≠ 92) (hc : l[n] = e) : partS o e 0 (rest l J n) = some ([], rest l J (nx J n)) := by
  rw [rest_cons hJ h]
  by_cases h2 : nx J n < l.length
  · rw [rest_cons hJ h2, partS, if_neg hb, if_pos hc, if_pos rfl]
  · rw [rest_nil (by omega), partS_one, if_pos ⟨hc, rfl⟩]
theorem partS_endS (hJ : JOk l J) (h : n < l.length) (hb : l[n] ≠ 92) (hc : l[n] = e) : partS o e (d + 1) (rest l J n) = (partS o e d (rest l J (nx J n))).map fun r => (l[n] :: r.1, r.2) := by
  rw [rest_cons hJ h]
  by_cases h2 : nx J n < l.length
  · rw [rest_cons hJ h2, partS, if_neg hb, if_pos hc, if_neg (by omega)]; rfl
  · rw [rest_nil (a := nx J n) (by omega), partS_one, if_neg (by omega), partS_nil]; rfl
theorem partS_open (hJ : JOk l J) (h : n < l.length) (hb : l[n] ≠ 92) (hc : l[n] ≠ e) (ho : l[n] = o) : partS o e d (rest l J n) = (partS o e (d + 1) (rest l J (nx J n))).map fun r => (l[n] :: r.1, r.2) := by
  rw [rest_cons hJ h]
  by_cases h2 : nx J n < l.length
  · rw [rest_cons hJ h2, partS, if_neg hb, if_neg hc, if_pos ho]
  · rw [rest_nil (a := nx J n) (by omega), partS_one, if_neg (fun h => hc h.1), partS_nil]; rfl
theorem partS_else (hJ : JOk l J) (h : n < l.length) (hb : l[n] = 92 → ¬ nx J n < l.length) (hc : l[n] ≠ e) (ho : l[n] ≠ o) : partS o e d (rest l J n) = (partS o e d (rest l J (nx J n))).map fun r => (l[n] :: r.1, r.2) := by
  rw [rest_cons hJ h]
  by_cases h2 : nx J n < l.length
  · rw [rest_cons hJ h2, partS, if_neg (fun e2 => hb e2 h2), if_neg hc, if_neg ho]
  · rw [rest_nil (a := nx J n) (by omega), partS_one, if_neg (fun h => hc h.1), partS_nil]; rfl
end
variable {w w' : World} {P : Nat} {M : GoMap} {s : ByteArray} {at_ en : Nat} {tm : Bool} {tv bv ov : Value} {o e : UInt8}
/-- what the reading of a part leaves -/
def PartP (s : ByteArray) (P : Nat) (M : GoMap) (en : Nat) (tm : Bool) (tv bv ov : Value) (a : Nat) (w : World) (X : Option (List UInt8 × Src)) (e : Ending) (w' : World) : Prop :=
  match X with
  | none => Bad s e ∧ But P w w'
  | some r => ∃ b, e = .returned (.string ⟨r.1.toArray⟩) ∧ Sc w' P M s b en tm tv bv ov ∧ But P w w' ∧ r.2 = rest s.data.toList M.J b ∧ a < b ∧ b ≤ s.data.toList.length ∧ r.1.length ≤ b
set_option maxRecDepth 100000 in
set_option maxHeartbeats 2000000 in
theorem part_g {Q fr : Nat} (h : Sc w P M s at_ en tm tv bv ov) (hq : Quo w Q P fr o) (hQP : Q ≠ P) (hs : s.size ≤ 140737488351232) (hJ : JOk s.data.toList M.J) (ha : at_ ≤ s.data.toList.length) (hfr : fr < s.size) (he : (e.toNat : Int) = partI o.toNat) (he92 : e ≠ 92) (ho92 : o ≠ 92) (X : Option (List UInt8 × Src)) (hX : X = partS o e 0 (rest s.data.toList M.J at_)) :
    Calls Tryd.prog 65 #[.pointer (some ⟨Q, 0, none⟩)] w (PartP s P M en tm tv bv ov at_ w X) := by
  have H := Lib.hid h
  have HQ := Lib.hid hq
  have HP := Lib.hid (fun w => part_p o.toNat w)
  rw [← he] at HP
  obtain ⟨l, hl⟩ : ∃ l, l = s.data.toList := ⟨_, rfl⟩
  have hsz : s.size = l.length := by rw [hl, ← sizeL]
  have HB := Lib.hid (fun n (h : n < s.size) (h' : n < l.length) => (show s[n] = l[n] by subst hl; exact byteE s n h h'))
  rw [← hl] at hJ ha hX
  have Hl := Lib.hid hl
  have HJ := Lib.hid hJ
  have Hsz := Lib.hid hsz
  have HX : Hid (X = (partS o e 0 (rest l M.J at_)).map fun r => ([] ++ r.1, r.2)) := Lib.hid (by rw [hX]; cases partS o e 0 (rest l M.J at_) <;> rfl)
  have Hfr := Lib.hid hfr
  have Ha := Lib.hid ha
  have hPB : P < w.heap.size := h.lt.1
  have hMB : M.blk < w.heap.size := h.lt.2
  have hQB : Q < w.heap.size := (Array.getElem?_eq_some_iff.1 hq).1
  have HST := Lib.hid (fun (W : World) (k : Nat) (hk : k ≤ 140737488351232) (hS : Sc W P M s k en tm tv bv ov) => step_m hS hk)
  clear h hq he hl hsz hJ ha hX hfr
  go_enter Tryd.func65, Tryd.ntmps65
  obtain ⟨q0, q1, q2⟩ := (HQ.out.but (But.of_gr ((Gr.refl w).alloc (.cells #[.pointer none, .slice none 0 0] 48))) hQP).cells
  go_wp2_with fail
  refine (HP.out _).mono ?_
  rintro e w1 ⟨rfl, rfl⟩
  go_wp2_with fail
  generalize hW : w.alloc (.cells #[.pointer none, .slice none 0 0] 48) = W1 at *
  have G1 : Hid (Gr w W1) := Lib.hid (by rw [← hW]; exact (Gr.refl w).alloc _)
  have hBl : Hid (Bld w.heap.size [] W1) := Lib.hid (by rw [← hW]; exact bld_new w)
  have hsz1 : Hid (W1.heap.size = w.heap.size + 1) := Lib.hid (by rw [← hW]; simp)
  clear hW q0 q1 q2 HP
  go_loopw [5, 6] (fun pv _ wr => ∃ (d n : Nat) (acc : List UInt8), pv = .int .i64 (d : Int) ∧ at_ ≤ n ∧ d ≤ n ∧ n ≤ l.length ∧ Sc wr P M s n en tm tv bv ov ∧ Bld w.heap.size acc wr ∧ acc.length ≤ n ∧ But P w wr ∧ w.heap.size + 1 ≤ wr.heap.size ∧ Hid (X = (partS o e d (rest l M.J n)).map fun r => (acc ++ r.1, r.2))) (fun _ _ wr => atLeft s.size P wr)
  case atStart => exact ⟨0, at_, [], rfl, Nat.le_refl _, Nat.zero_le _, Ha.out, H.out.gr G1.out, hBl.out, Nat.zero_le _, But.of_gr G1.out, by rw [hsz1.out]; exact Nat.le_refl _, HX⟩
  case round =>
    obtain ⟨d, n, acc, rfl, han, hdn, hnl, hS, hBld, hacc, hBut, hZ, hE⟩ := hrel
    have S := Lib.hid hS
    have Bl := Lib.hid hBld
    have Bu := Lib.hid hBut
    have Z := Lib.hid hZ
    have Han := Lib.hid han
    have Hdn := Lib.hid hdn
    have HAc := Lib.hid hacc
    clear hS hBld hBut hZ hBl G1 HX hsz1
    obtain ⟨c0, c1, c2, c3, c4, c5, c6, c7, cf⟩ := S.out.cells
    obtain ⟨q0, q1, q2⟩ := (HQ.out.but Bu.out hQP).cells
    by_cases hc : n < l.length
    · have hsn : n < s.size := by rw [Hsz.out]; exact hc
      have hc' : (n : Int) < (s.size : Int) := by omega
      have ex := HB.out n hsn hc
      have Hns := Lib.hid hsn
      have hlS := Hsz.out
      have Hn47 : Hid (n ≤ 140737488351232) := Lib.hid (by omega)
      have HBd : Hid (acc.length + 1 ≤ 140737488355328) := Lib.hid (by omega)
      obtain ⟨n1, hn1⟩ : ∃ n1, n1 = nx M.J n := ⟨_, rfl⟩
      have Hn1 := Lib.hid hn1
      have Hnn : Hid (n < n1) := Lib.hid (by rw [hn1]; exact nx_gt HJ.out n)
      have Hn1l : Hid (n1 ≤ l.length) := Lib.hid (by rw [hn1]; exact nx_le HJ.out hc)
      by_cases hesc : l[n] = 92 ∧ n1 < l.length
      · obtain ⟨h92, hn2⟩ := hesc
        have HE : Hid (X = (partS o e d (rest l M.J (nx M.J n1))).map fun r => ((acc ++ [l[n]] ++ [l[n1]]) ++ r.1, r.2)) := Lib.hid (by
          subst hn1
          rw [hE.out, partS_esc HJ.out hc hn2 h92, Option.map_map]
          congr 1; funext r; simp)
        have hsn1 : n1 < s.size := by omega
        have hc1 : (n1 : Int) < (s.size : Int) := by omega
        have ex1 := HB.out n1 hsn1 hn2
        have t92 : ((l[n].toNat : Int) == 92) = true := by rw [h92]; rfl
        have Hn147 : Hid (n1 ≤ 140737488351232) := Lib.hid (by omega)
        have Hns1 := Lib.hid hsn1
        obtain ⟨n2, hn2e⟩ : ∃ n2, n2 = nx M.J n1 := ⟨_, rfl⟩
        have Hn2 := Lib.hid hn2e
        have Hnn2 : Hid (n1 < n2) := Lib.hid (by rw [hn2e]; exact nx_gt HJ.out n1)
        have Hn2l : Hid (n2 ≤ l.length) := Lib.hid (by rw [hn2e]; exact nx_le HJ.out hn2)
        rw [← hn2e] at HE
        generalize l[n] = x at *
        generalize l[n1] = y at *
        clear hE HB hc hn2 h92 hlS hn1 hnl han hdn hacc hn2e
        go_wp2_with fail
        go_quiet (fail)
        go_wp2_with fail
        go_quiet (fail)
        go_wp2_with fail
        refine (HST.out _ n Hn47.out (S.out.gr ((Gr.refl wr).drewN _))).mono ?_
        rintro e1 w2 ⟨rfl, hS2, hb2⟩
        rw [← Hn1.out] at hS2
        have K2 := Lib.hid ((But.of_gr (P := P) ((Gr.refl wr).drewN _)).trans hb2)
        have Z2 : Hid (w.heap.size + 1 ≤ w2.heap.size) := Lib.hid (Nat.le_trans Z.out K2.out.size)
        have B2 := Lib.hid (Bu.out.trans K2.out)
        have L2 := Lib.hid (Bld.but Bl.out hPB K2.out)
        have S2 := Lib.hid hS2
        clear hS2 hb2 K2 c0 c1 c2 c3 c4 c5 c6 c7 cf q0 q1 q2 Bu Bl Z
        obtain ⟨c0, c1, c2, c3, c4, c5, c6, c7, cf⟩ := S2.out.cells
        obtain ⟨q0, q1, q2⟩ := (HQ.out.but B2.out hQP).cells
        go_wp2_with fail
        go_quiet (fail)
        go_wp2_with fail
        refine (bld_byte x (Bld.but L2.out hPB (But.of_gr ((Gr.refl w2).drewN _))) HBd.out (by have := Z2.out; simp; omega)).mono ?_
        rintro e3 w3 ⟨rfl, hl3, hb3, _⟩
        have S3 := Lib.hid ((S2.out.gr ((Gr.refl w2).drewN _)).below hb3 hPB hMB)
        have B3 := Lib.hid ((B2.out.trans (But.of_gr ((Gr.refl w2).drewN _))).below hb3 (Nat.le_refl _))
        have L3 := Lib.hid hl3
        have Z3 : Hid (w.heap.size + 1 ≤ w3.heap.size) := Lib.hid (Nat.le_trans Z2.out (Nat.le_trans (by simp) hb3.size))
        clear hl3 hb3 L2 S2 B2 Z2 c0 c1 c2 c3 c4 c5 c6 c7 cf q0 q1 q2
        obtain ⟨c0, c1, c2, c3, c4, c5, c6, c7, cf⟩ := S3.out.cells
        obtain ⟨q0, q1, q2⟩ := (HQ.out.but B3.out hQP).cells
        go_wp2_with fail
        go_quiet (fail)
        go_wp2_with fail
        refine (HST.out _ n1 Hn147.out (S3.out.gr ((Gr.refl w3).drewN _))).mono ?_
        rintro e4 w4 ⟨rfl, hS4, hb4⟩
        rw [← Hn2.out] at hS4
        have K4 := Lib.hid ((But.of_gr (P := P) ((Gr.refl w3).drewN _)).trans hb4)
        have Z4 : Hid (w.heap.size + 1 ≤ w4.heap.size) := Lib.hid (Nat.le_trans Z3.out K4.out.size)
        have B4 := Lib.hid (B3.out.trans K4.out)
        have L4 := Lib.hid (Bld.but L3.out hPB K4.out)
        have S4 := Lib.hid hS4
        clear hS4 hb4 K4 c0 c1 c2 c3 c4 c5 c6 c7 cf q0 q1 q2 S3 B3 L3 Z3
        go_wp2_with fail
        refine (bld_byte y L4.out (by have := HBd.out; have := HAc.out; have := Hn47.out; simp only [List.length_append, List.length_cons, List.length_nil]; omega) (by have := Z4.out; omega)).mono ?_
        rintro e5 w5 ⟨rfl, hl5, hb5, _⟩
        have S5 := Lib.hid (S4.out.below hb5 hPB hMB)
        have B5 := Lib.hid (B4.out.below hb5 (Nat.le_refl _))
        have L5 := Lib.hid hl5
        have Z5 : Hid (w.heap.size + 1 ≤ w5.heap.size) := Lib.hid (Nat.le_trans Z4.out hb5.size)
        clear hl5 hb5 L4 S4 B4 Z4
        go_wp2
        go_roundw
        case rel =>
          have := Hnn.out
          have := Hnn2.out
          have := Han.out
          have := HAc.out
          have := Hdn.out
          exact ⟨d, n2, acc ++ [x] ++ [y], rfl, by omega, by omega, Hn2l.out, S5.out, L5.out, by simp only [List.length_append, List.length_cons, List.length_nil]; omega, B5.out, Z5.out, HE⟩
        case measure =>
          have := Hnn.out
          have := Hnn2.out
          have := Hns.out
          rw [S.out.left, S5.out.left]
          omega
      · have t92 : (((l[n].toNat : Int) == 92) = false) ∨ (((l[n].toNat : Int) == 92) = true ∧ decide (n1 < s.size) = false ∧ decide ((n1 : Int) < (s.size : Int)) = false) := by
          by_cases h : l[n] = 92
          · have : ¬ n1 < l.length := fun h2 => hesc ⟨h, h2⟩
            exact .inr ⟨by rw [h]; rfl, by simp; omega, by simp; omega⟩
          · exact .inl (u8_lit h)
        have hcond : l[n] = 92 → ¬ nx M.J n < l.length := fun h h2 => hesc ⟨h, by rw [hn1]; exact h2⟩
        by_cases hce : l[n] = e
        · have te : ((l[n].toNat : Int) == (e.toNat : Int)) = true := by rw [hce]; simp
          have hx92 : l[n] ≠ 92 := by rw [hce]; exact he92
          have t92' : ((l[n].toNat : Int) == 92) = false := u8_lit hx92
          clear t92
          cases d with
          | zero =>
            have HE : Hid (X = some (acc, rest l M.J n1)) := Lib.hid (by
              rw [hE.out, partS_end0 HJ.out hc hx92 hce, hn1]; simp)
            generalize l[n] = x at *
            clear hE HB hc hx92 hce hesc hcond hlS hn1 hnl han hdn hacc
            go_wp2_with fail
            go_quiet (fail)
            go_wp2_with fail
            go_quiet (fail)
            go_wp2_with fail
            refine (HST.out _ n Hn47.out (S.out.gr ((Gr.refl wr).drewN _))).mono ?_
            rintro e1 w2 ⟨rfl, hS2, hb2⟩
            rw [← Hn1.out] at hS2
            have K2 := Lib.hid ((But.of_gr (P := P) ((Gr.refl wr).drewN _)).trans hb2)
            have Z2 : Hid (w.heap.size + 1 ≤ w2.heap.size) := Lib.hid (Nat.le_trans Z.out K2.out.size)
            have B2 := Lib.hid (Bu.out.trans K2.out)
            have L2 := Lib.hid (Bld.but Bl.out hPB K2.out)
            have S2 := Lib.hid hS2
            clear hS2 hb2 K2 c0 c1 c2 c3 c4 c5 c6 c7 cf q0 q1 q2 Bu Bl Z
            obtain ⟨c0, c1, c2, c3, c4, c5, c6, c7, cf⟩ := S2.out.cells
            obtain ⟨q0, q1, q2⟩ := (HQ.out.but B2.out hQP).cells
            go_wp2_with fail
            go_quiet (fail)
            go_wp2_with fail
            refine (bld_text (Bld.but L2.out hPB (But.of_gr ((Gr.refl w2).drewN _))) (by have := Z2.out; simp; omega)).mono ?_
            rintro e3 w3 ⟨rfl, hb3⟩
            go_wp2
            go_ret
            rw [HE.out]
            have := Hnn.out
            have := Han.out
            have := HAc.out
            refine ⟨n1, rfl, (S2.out.gr ((Gr.refl w2).drewN _)).below hb3 hPB hMB, (B2.out.trans (But.of_gr ((Gr.refl w2).drewN _))).below hb3 (Nat.le_refl _), by rw [← Hl.out], by omega, by rw [← Hl.out]; exact Hn1l.out, by show acc.length ≤ n1; omega⟩
          | succ d =>
            have HE : Hid (X = (partS o e d (rest l M.J n1)).map fun r => ((acc ++ [l[n]]) ++ r.1, r.2)) := Lib.hid (by
              rw [hE.out, partS_endS HJ.out hc hx92 hce, Option.map_map, hn1]
              congr 1; funext r; simp)
            have td : ((((d + 1 : Nat) : Int)) == 0) = false := by simp; omega
            have hd1 : ((d + 1 : Nat) : Int) - 1 = (d : Int) := by omega
            have bd : (d : Int) ≤ 9223372036854775807 := by omega
            have bd0 : -9223372036854775808 ≤ (d : Int) := by omega
            obtain ⟨d1, hd1'⟩ : ∃ d1, d1 = d + 1 := ⟨_, rfl⟩
            rw [← hd1'] at td hd1 ⊢
            generalize l[n] = x at *
            have Hdd := Lib.hid hd1'
            clear hE HB hc hx92 hce hesc hcond hlS hn1 hnl han hdn hacc hd1'
            go_wp2_with fail
            go_quiet (fail)
            go_wp2_with fail
            go_quiet (fail)
            go_wp2_with fail
            refine (HST.out _ n Hn47.out (S.out.gr ((Gr.refl wr).drewN _))).mono ?_
            rintro e1 w2 ⟨rfl, hS2, hb2⟩
            rw [← Hn1.out] at hS2
            have K2 := Lib.hid ((But.of_gr (P := P) ((Gr.refl wr).drewN _)).trans hb2)
            have Z2 : Hid (w.heap.size + 1 ≤ w2.heap.size) := Lib.hid (Nat.le_trans Z.out K2.out.size)
            have B2 := Lib.hid (Bu.out.trans K2.out)
            have L2 := Lib.hid (Bld.but Bl.out hPB K2.out)
            have S2 := Lib.hid hS2
            clear hS2 hb2 K2 c0 c1 c2 c3 c4 c5 c6 c7 cf q0 q1 q2 Bu Bl Z
            obtain ⟨c0, c1, c2, c3, c4, c5, c6, c7, cf⟩ := S2.out.cells
            obtain ⟨q0, q1, q2⟩ := (HQ.out.but B2.out hQP).cells
            go_wp2_with fail
            go_quiet (fail)
            go_wp2_with fail
            refine (bld_byte x (Bld.but L2.out hPB (But.of_gr ((Gr.refl w2).drewN _))) HBd.out (by have := Z2.out; simp; omega)).mono ?_
            rintro e3 w3 ⟨rfl, hl3, hb3, _⟩
            have S3 := Lib.hid ((S2.out.gr ((Gr.refl w2).drewN _)).below hb3 hPB hMB)
            have B3 := Lib.hid ((B2.out.trans (But.of_gr ((Gr.refl w2).drewN _))).below hb3 (Nat.le_refl _))
            have L3 := Lib.hid hl3
            have Z3 : Hid (w.heap.size + 1 ≤ w3.heap.size) := Lib.hid (Nat.le_trans Z2.out (Nat.le_trans (by simp) hb3.size))
            clear hl3 hb3 L2 S2 B2 Z2 c0 c1 c2 c3 c4 c5 c6 c7 cf q0 q1 q2
            go_wp2
            go_roundw
            case rel =>
              have := Hnn.out
              have := Han.out
              have := HAc.out
              have := Hdn.out
              have := Hdd.out
              exact ⟨d, n1, acc ++ [x], rfl, by omega, by omega, Hn1l.out, S3.out, L3.out, by rw [List.length_append]; simp only [List.length_cons, List.length_nil]; omega, B3.out, Z3.out, HE⟩
            case measure =>
              have := Hnn.out
              have := Hns.out
              rw [S.out.left, S3.out.left]
              omega
        · have te : ((l[n].toNat : Int) == (e.toNat : Int)) = false := by
            simp only [beq_eq_false_iff_ne, ne_eq]
            intro h
            exact hce (UInt8.toNat_inj.1 (by omega))
          by_cases hco : l[n] = o
          · have to : ((l[n].toNat : Int) == (o.toNat : Int)) = true := by rw [hco]; simp
            have hx92 : l[n] ≠ 92 := by rw [hco]; exact ho92
            have t92' : ((l[n].toNat : Int) == 92) = false := u8_lit hx92
            clear t92
            have HE : Hid (X = (partS o e (d + 1) (rest l M.J n1)).map fun r => ((acc ++ [l[n]]) ++ r.1, r.2)) := Lib.hid (by
              rw [hE.out, partS_open HJ.out hc hx92 hce hco, Option.map_map, hn1]
              congr 1; funext r; simp)
            obtain ⟨d1, hd1'⟩ : ∃ d1, d1 = d + 1 := ⟨_, rfl⟩
            have hw1 : IntKind.i64.wrap ((d : Int) + 1) = (d1 : Int) := by rw [IntKind.wrap_i64]; omega
            have hw2 : wrap64 ((d : Int) + 1) = (d1 : Int) := by simp only [wrap64]; omega
            have Hd := Lib.hid hd1'
            rw [← hd1'] at HE
            generalize l[n] = x at *
            clear hE HB hc hx92 hce hesc hcond hlS hn1 hnl han hdn hacc hd1' hco
            go_wp2_with fail
            go_quiet (fail)
            go_wp2_with fail
            go_quiet (fail)
            go_wp2_with fail
            refine (HST.out _ n Hn47.out (S.out.gr ((Gr.refl wr).drewN _))).mono ?_
            rintro e1 w2 ⟨rfl, hS2, hb2⟩
            rw [← Hn1.out] at hS2
            have K2 := Lib.hid ((But.of_gr (P := P) ((Gr.refl wr).drewN _)).trans hb2)
            have Z2 : Hid (w.heap.size + 1 ≤ w2.heap.size) := Lib.hid (Nat.le_trans Z.out K2.out.size)
            have B2 := Lib.hid (Bu.out.trans K2.out)
            have L2 := Lib.hid (Bld.but Bl.out hPB K2.out)
            have S2 := Lib.hid hS2
            clear hS2 hb2 K2 c0 c1 c2 c3 c4 c5 c6 c7 cf q0 q1 q2 Bu Bl Z
            obtain ⟨c0, c1, c2, c3, c4, c5, c6, c7, cf⟩ := S2.out.cells
            obtain ⟨q0, q1, q2⟩ := (HQ.out.but B2.out hQP).cells
            go_wp2_with fail
            go_quiet (fail)
            go_wp2_with fail
            refine (bld_byte x (Bld.but L2.out hPB (But.of_gr ((Gr.refl w2).drewN _))) HBd.out (by have := Z2.out; simp; omega)).mono ?_
            rintro e3 w3 ⟨rfl, hl3, hb3, _⟩
            have S3 := Lib.hid ((S2.out.gr ((Gr.refl w2).drewN _)).below hb3 hPB hMB)
            have B3 := Lib.hid ((B2.out.trans (But.of_gr ((Gr.refl w2).drewN _))).below hb3 (Nat.le_refl _))
            have L3 := Lib.hid hl3
            have Z3 : Hid (w.heap.size + 1 ≤ w3.heap.size) := Lib.hid (Nat.le_trans Z2.out (Nat.le_trans (by simp) hb3.size))
            clear hl3 hb3 L2 S2 B2 Z2 c0 c1 c2 c3 c4 c5 c6 c7 cf q0 q1 q2
            clear hw1 hw2
            go_wp2
            go_roundw
            case rel =>
              have := Hnn.out
              have := Han.out
              have := HAc.out
              have := Hdn.out
              have := Hd.out
              exact ⟨d1, n1, acc ++ [x], rfl, by omega, by omega, Hn1l.out, S3.out, L3.out, by rw [List.length_append]; simp only [List.length_cons, List.length_nil]; omega, B3.out, Z3.out, HE⟩
            case measure =>
              have := Hnn.out
              have := Hns.out
              rw [S.out.left, S3.out.left]
              omega
          · have to : ((l[n].toNat : Int) == (o.toNat : Int)) = false := by
              simp only [beq_eq_false_iff_ne, ne_eq]
              intro h
              exact hco (UInt8.toNat_inj.1 (by omega))
            have HE : Hid (X = (partS o e d (rest l M.J n1)).map fun r => ((acc ++ [l[n]]) ++ r.1, r.2)) := Lib.hid (by
              rw [hE.out, partS_else HJ.out hc hcond hce hco, Option.map_map, hn1]
              congr 1; funext r; simp)
            generalize l[n] = x at *
            clear hE HB hc hce hesc hcond hlS hn1 hnl han hdn hacc hco
            rcases t92 with t92 | ⟨t92, t93, t94⟩
            all_goals
              go_wp2_with fail
              go_quiet (fail)
              go_wp2_with fail
              go_quiet (fail)
              go_wp2_with fail
              refine (HST.out _ n Hn47.out (S.out.gr ((Gr.refl wr).drewN _))).mono ?_
              rintro e1 w2 ⟨rfl, hS2, hb2⟩
              rw [← Hn1.out] at hS2
              have K2 := Lib.hid ((But.of_gr (P := P) ((Gr.refl wr).drewN _)).trans hb2)
              have Z2 : Hid (w.heap.size + 1 ≤ w2.heap.size) := Lib.hid (Nat.le_trans Z.out K2.out.size)
              have B2 := Lib.hid (Bu.out.trans K2.out)
              have L2 := Lib.hid (Bld.but Bl.out hPB K2.out)
              have S2 := Lib.hid hS2
              clear hS2 hb2 K2 c0 c1 c2 c3 c4 c5 c6 c7 cf q0 q1 q2 Bu Bl Z
              obtain ⟨c0, c1, c2, c3, c4, c5, c6, c7, cf⟩ := S2.out.cells
              obtain ⟨q0, q1, q2⟩ := (HQ.out.but B2.out hQP).cells
              go_wp2_with fail
              go_quiet (fail)
              go_wp2_with fail
              refine (bld_byte x (Bld.but L2.out hPB (But.of_gr ((Gr.refl w2).drewN _))) HBd.out (by have := Z2.out; simp; omega)).mono ?_
              rintro e3 w3 ⟨rfl, hl3, hb3, _⟩
              have S3 := Lib.hid ((S2.out.gr ((Gr.refl w2).drewN _)).below hb3 hPB hMB)
              have B3 := Lib.hid ((B2.out.trans (But.of_gr ((Gr.refl w2).drewN _))).below hb3 (Nat.le_refl _))
              have L3 := Lib.hid hl3
              have Z3 : Hid (w.heap.size + 1 ≤ w3.heap.size) := Lib.hid (Nat.le_trans Z2.out (Nat.le_trans (by simp) hb3.size))
              clear hl3 hb3 L2 S2 B2 Z2 c0 c1 c2 c3 c4 c5 c6 c7 cf q0 q1 q2
              go_wp2
              go_roundw
              case rel =>
                have := Hnn.out
                have := Han.out
                have := HAc.out
                have := Hdn.out
                exact ⟨d, n1, acc ++ [x], rfl, by omega, by omega, Hn1l.out, S3.out, L3.out, by rw [List.length_append]; simp only [List.length_cons, List.length_nil]; omega, B3.out, Z3.out, HE⟩
              case measure =>
                have := Hnn.out
                have := Hns.out
                rw [S.out.left, S3.out.left]
                omega
    · have g1 : decide (n < s.size) = false := by rw [Hsz.out]; simpa using hc
      have g2 : decide ((n : Int) < (s.size : Int)) = false := by rw [Hsz.out]; simp; omega
      have HE : Hid (X = none) := Lib.hid (by rw [hE.out, rest_nil (by omega), partS_nil]; rfl)
      clear hE HB hc hnl han hdn hacc
      go_wp2_with fail
      go_quiet (fail)
      go_wp2_with fail
      refine ⟨rfl, ?_⟩
      rw [HE.out]
      exact ⟨⟨fr, Hfr.out, rfl⟩, Bu.out.trans (But.of_gr ((Gr.refl _).drewN _))⟩
end Go.Proofs.YthmopindibdhnaaDoor.G
