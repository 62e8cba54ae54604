/- What stands in a quote: the scanner's part. -/
import Derived.Test.YtaoehbnjipegoaaDoorLQk
namespace Go.Proofs.YtaoehbnjipegoaaDoor
open Go.RowKit Go.Shelf
/-- where a part ends that has come to place n, d pairs deep -/
def endR (l : List UInt8) (o e : UInt8) : Nat → Nat → Nat → Option Nat
  | 0, _, _ => none
  | f + 1, d, n => match l[n]? with
    | none => none
    | some c => if c = 92 ∧ n + 1 < l.length then endR l o e f d (n + 2)
      else if c = e then (if d = 0 then some n else endR l o e f (d - 1) (n + 1))
      else if c = o then endR l o e f (d + 1) (n + 1) else endR l o e f d (n + 1)
variable {l : List UInt8} {o e : UInt8} {f d n m : Nat}
theorem endR_lt (h : endR l o e f d n = some m) : ∃ g, f = g + 1 ∧ n < l.length := by
  cases f with
  | zero => cases h
  | succ f =>
    by_cases hn : n < l.length
    · exact ⟨f, rfl, hn⟩
    · rw [endR, List.getElem?_eq_none (by omega)] at h; cases h
theorem endR_esc (h : endR l o e (f + 1) d n = some m) (hn : n + 1 < l.length) (hc : l[n] = 92) : endR l o e f d (n + 2) = some m := by
  rw [endR, List.getElem?_eq_getElem (by omega : n < l.length)] at h; simp only at h
  rw [if_pos ⟨hc, hn⟩] at h; exact h
theorem endR_end0 (h : endR l o e (f + 1) 0 n = some m) (hn : n < l.length) (hb : ¬ (l[n] = 92 ∧ n + 1 < l.length)) (hc : l[n] = e) : m = n := by
  rw [endR, List.getElem?_eq_getElem hn] at h; simp only at h
  rw [if_neg hb, if_pos hc] at h; simp at h; exact h.symm
theorem endR_endS (h : endR l o e (f + 1) (d + 1) n = some m) (hn : n < l.length) (hb : ¬ (l[n] = 92 ∧ n + 1 < l.length)) (hc : l[n] = e) : endR l o e f d (n + 1) = some m := by
  rw [endR, List.getElem?_eq_getElem hn] at h; simp only at h
  rw [if_neg hb, if_pos hc, if_neg (by omega)] at h; exact h
theorem endR_open (h : endR l o e (f + 1) d n = some m) (hn : n < l.length) (hb : ¬ (l[n] = 92 ∧ n + 1 < l.length)) (hc : l[n] ≠ e) (ho : l[n] = o) : endR l o e f (d + 1) (n + 1) = some m := by
  rw [endR, List.getElem?_eq_getElem hn] at h; simp only at h
  rw [if_neg hb, if_neg hc, if_pos ho] at h; exact h
theorem endR_else (h : endR l o e (f + 1) d n = some m) (hn : n < l.length) (hb : ¬ (l[n] = 92 ∧ n + 1 < l.length)) (hc : l[n] ≠ e) (ho : l[n] ≠ o) : endR l o e f d (n + 1) = some m := by
  rw [endR, List.getElem?_eq_getElem hn] at h; simp only at h
  rw [if_neg hb, if_neg hc, if_neg ho] at h; exact h
theorem endR_le (h : endR l o e f d n = some m) : n ≤ m ∧ m < l.length := by
  induction f generalizing d n with
  | zero => cases h
  | succ f ih =>
    obtain ⟨_, _, hn⟩ := endR_lt h
    rw [endR, List.getElem?_eq_getElem hn] at h; simp only at h
    split at h
    · have := ih h; omega
    · split at h
      · split at h
        · cases h; exact ⟨Nat.le_refl _, hn⟩
        · have := ih h; omega
      · split at h
        · have := ih h; omega
        · have := ih h; omega
variable {w : World} {P M : Nat} {s : ByteArray} {at_ en : Nat} {tm : Bool} {tv bv ov : Value}
theorem But.below {B : Nat} {w wr w' : World} (h : But P w wr) (k : Below B wr w') (hB : w.heap.size ≤ B) : But P w w' :=
  ⟨k.os.trans h.os, k.tape.trans h.tape, k.output.trans h.output, Nat.le_trans h.size k.size, fun i hi hn => (k.block i (by omega)).trans (h.block i hi hn)⟩
theorem Sc.below {B : Nat} {w w' : World} (h : Sc w P M s at_ en tm tv bv ov) (k : Below B w w') (hP : P < B) (hM : M < B) : Sc w' P M s at_ en tm tv bv ov :=
  ⟨by rw [k.block _ hP]; exact h.blk, by rw [k.block _ hM]; exact h.mp, h.ne⟩
def Quo (w : World) (Q P : Nat) (fr : Nat) (o : UInt8) : Prop := w.heap[Q]? = some (.cells #[.pointer (some ⟨P, 0, none⟩), .int .i64 fr, .int .u8 o.toNat] 80 (0, 0))
theorem Quo.cells {w : World} {Q fr : Nat} (h : Quo w Q P fr o) : w.cell? ⟨Q, 0, none⟩ = some (.pointer (some ⟨P, 0, none⟩)) ∧ w.cell? ⟨Q, 1, none⟩ = some (.int .i64 fr) ∧ w.cell? ⟨Q, 2, none⟩ = some (.int .u8 o.toNat) := by
  unfold Quo at h
  simp [World.cell?, h]
theorem Quo.but {w w' : World} {Q fr : Nat} (h : Quo w Q P fr o) (k : But P w w') (hne : Q ≠ P) : Quo w' Q P fr o := by
  unfold Quo at *
  rw [k.block _ (Array.getElem?_eq_some_iff.1 h).1 (fun e => hne (by injection e))]; exact h
theorem takeS {l : List UInt8} {a n : Nat} (h : n < l.length) (ha : a ≤ n) : (l.drop a).take (n + 1 - a) = (l.drop a).take (n - a) ++ [l[n]] := by
  rw [show n + 1 - a = (n - a) + 1 by omega, List.take_add_one, List.getElem?_drop, show a + (n - a) = n by omega, List.getElem?_eq_getElem h]
  rfl
def atLeft (m : Nat) (P : Nat) (w : World) : Nat := match w.cell? ⟨P, 1, none⟩ with
  | some (.int _ c) => ((m : Int) - c).toNat
  | _ => 0
set_option maxRecDepth 100000 in
set_option maxHeartbeats 2000000 in
theorem part_m {Q fr : Nat} (h : Sc w P M s at_ en tm tv bv ov) (hq : Quo w Q P fr o) (hQP : Q ≠ P) (hs : s.size ≤ 140737488351232) (he : (e.toNat : Int) = partI o.toNat) (he92 : e ≠ 92) (ho92 : o ≠ 92) (hm : endR s.data.toList o e f 0 at_ = some m) :
    Calls Tryd.prog 78 #[.pointer (some ⟨Q, 0, none⟩)] w fun e w' => e = .returned (.string ⟨((s.data.toList.drop at_).take (m - at_)).toArray⟩) ∧ Sc w' P M s (m + 1) en tm tv bv ov ∧ But P w w' := by
  have H := Lib.hid h
  have HQ := Lib.hid hq
  have HP := Lib.hid (fun w => part_p o.toNat w)
  rw [← he] at HP
  obtain ⟨l, hl⟩ : ∃ l, l = s.data.toList := ⟨_, rfl⟩
  have hsz : s.size = l.length := by rw [hl, ← sizeL]
  have HB := Lib.hid (fun n (h : n < s.size) (h' : n < l.length) => (show s[n] = l[n] by subst hl; exact byteE s n h h'))
  rw [← hl] at hm ⊢
  have hle := endR_le hm
  have Hm := Lib.hid hm
  have Hle := Lib.hid hle
  have Hsz := Lib.hid hsz
  have hPB : P < w.heap.size := h.lt.1
  have hMB : M < w.heap.size := h.lt.2
  have hQB : Q < w.heap.size := (Array.getElem?_eq_some_iff.1 hq).1
  have HST := Lib.hid (fun (W : World) (k : Nat) (hk : k ≤ 140737488351232) (hS : Sc W P M s k en tm tv bv ov) => step_p hS hk)
  clear h hq he hl hsz hm hle
  go_enter Tryd.func78, Tryd.ntmps78
  obtain ⟨q0, q1, q2⟩ := (HQ.out.but (But.of_gr ((Gr.refl w).alloc (.cells #[.pointer none, .slice none 0 0] 54))) hQP).cells
  go_wp2_with fail
  refine (HP.out _).mono ?_
  rintro e w1 ⟨rfl, rfl⟩
  go_wp2_with fail
  generalize hW : w.alloc (.cells #[.pointer none, .slice none 0 0] 54) = W1 at *
  have G1 : Hid (Gr w W1) := Lib.hid (by rw [← hW]; exact (Gr.refl w).alloc _)
  have hBl : Hid (Bld w.heap.size [] W1) := Lib.hid (by rw [← hW]; exact bld_new w)
  have hsz1 : Hid (W1.heap.size = w.heap.size + 1) := Lib.hid (by rw [← hW]; simp)
  clear hW q0 q1 q2 HP
  go_loopw [5, 6] (fun pv _ wr => ∃ (d n f : Nat), pv = .int .i64 (d : Int) ∧ at_ ≤ n ∧ d ≤ n ∧ Sc wr P M s n en tm tv bv ov ∧ Bld w.heap.size ((l.drop at_).take (n - at_)) wr ∧ But P w wr ∧ w.heap.size + 1 ≤ wr.heap.size ∧ Hid (endR l o e f d n = some m)) (fun _ _ wr => atLeft s.size P wr)
  case atStart => exact ⟨0, at_, f, rfl, Nat.le_refl _, Nat.zero_le _, H.out.gr G1.out, by simpa using hBl.out, But.of_gr G1.out, by rw [hsz1.out]; exact Nat.le_refl _, Hm⟩
  case round =>
    obtain ⟨d, n, f, rfl, han, hdn, hS, hBld, hBut, hZ, hE⟩ := hrel
    obtain ⟨f, rfl, hc⟩ := endR_lt hE.out
    have S := Lib.hid hS
    have Bl := Lib.hid hBld
    have Bu := Lib.hid hBut
    have Z := Lib.hid hZ
    clear hS hBld hBut hZ hBl G1 Hm hsz1
    obtain ⟨c0, c1, c2, c3, c4, c5, c6, c7, cf⟩ := S.out.cells
    obtain ⟨q0, q1, q2⟩ := (HQ.out.but Bu.out hQP).cells
    have C1 := Lib.hid c1
    have hsn : n < s.size := by rw [Hsz.out]; exact hc
    have hc' : (n : Int) < (s.size : Int) := by omega
    have ex := HB.out n hsn hc
    have hlS := Hsz.out
    have hTk := takeS hc han
    have hlen : ((l.drop at_).take (n - at_)).length ≤ n := by rw [List.length_take]; omega
    have HBd : Hid (((l.drop at_).take (n - at_)).length + 1 ≤ 140737488355328) := Lib.hid (by omega)
    obtain ⟨n1, hn1⟩ : ∃ n1, n1 = n + 1 := ⟨_, rfl⟩
    by_cases hesc : l[n] = 92 ∧ n + 1 < l.length
    · obtain ⟨h92, hn2⟩ := hesc
      have HE := Lib.hid (endR_esc hE.out hn2 h92)
      have hn1L : n1 < l.length := by omega
      have hsn1 : n1 < s.size := by omega
      have hc1 : (n1 : Int) < (s.size : Int) := by omega
      have ex1 := HB.out n1 hsn1 hn1L
      have hTk1 := takeS hn1L (by omega : at_ ≤ n1)
      have HT1 : Hid ((l.drop at_).take (n1 + 1 - at_) = (l.drop at_).take (n - at_) ++ [l[n]] ++ [l[n1]]) := Lib.hid (by rw [hTk1]; congr 1; rw [hn1]; exact hTk)
      have t92 : ((l[n].toNat : Int) == 92) = true := by rw [h92]; rfl
      generalize l[n] = x at *
      generalize l[n1] = y at *
      have Hn1 := Lib.hid hn1
      have Hln := Lib.hid hlen
      clear hE hTk HB hc hn2 h92 hTk1 hlen
      clear hlS hn1
      go_wp2_with fail
      go_quiet (fail)
      go_wp2_with fail
      go_quiet (fail)
      go_wp2_with fail
      refine (HST.out _ n (by omega) (S.out.gr ((Gr.refl wr).drewN _))).mono ?_
      rintro e1 w2 ⟨rfl, hS2, hb2⟩
      have K2 := Lib.hid ((But.of_gr (P := P) ((Gr.refl wr).drewN _)).trans hb2)
      have Z2 : Hid (w.heap.size + 1 ≤ w2.heap.size) := Lib.hid (Nat.le_trans Z.out K2.out.size)
      have B2 := Lib.hid (Bu.out.trans K2.out)
      have L2 := Lib.hid (Bld.but Bl.out hPB K2.out)
      rw [← Hn1.out] at hS2
      have S2 := Lib.hid hS2
      clear hS2 hb2 K2 c0 c1 c2 c3 c4 c5 c6 c7 cf q0 q1 q2 S Bu Bl Z
      obtain ⟨c0, c1, c2, c3, c4, c5, c6, c7, cf⟩ := S2.out.cells
      obtain ⟨q0, q1, q2⟩ := (HQ.out.but B2.out hQP).cells
      go_wp2_with fail
      go_quiet (fail)
      go_wp2_with fail
      refine (bld_byte x (Bld.but L2.out hPB (But.of_gr ((Gr.refl w2).drewN _))) (by have := HBd.out; omega) (by have := Z2.out; simp; omega)).mono ?_
      rintro e3 w3 ⟨rfl, hl3, hb3, _⟩
      have S3 := Lib.hid ((S2.out.gr ((Gr.refl w2).drewN _)).below hb3 hPB hMB)
      have B3 := Lib.hid ((B2.out.trans (But.of_gr ((Gr.refl w2).drewN _))).below hb3 (Nat.le_refl _))
      have L3 := Lib.hid hl3
      have Z3 : Hid (w.heap.size + 1 ≤ w3.heap.size) := Lib.hid (Nat.le_trans Z2.out (Nat.le_trans (by simp) hb3.size))
      clear hl3 hb3 L2 S2 B2 Z2 c0 c1 c2 c3 c4 c5 c6 c7 cf q0 q1 q2
      obtain ⟨c0, c1, c2, c3, c4, c5, c6, c7, cf⟩ := S3.out.cells
      obtain ⟨q0, q1, q2⟩ := (HQ.out.but B3.out hQP).cells
      go_wp2_with fail
      go_quiet (fail)
      go_wp2_with fail
      refine (HST.out _ n1 (by omega) (S3.out.gr ((Gr.refl w3).drewN _))).mono ?_
      rintro e4 w4 ⟨rfl, hS4, hb4⟩
      have K4 := Lib.hid ((But.of_gr (P := P) ((Gr.refl w3).drewN _)).trans hb4)
      have Z4 : Hid (w.heap.size + 1 ≤ w4.heap.size) := Lib.hid (Nat.le_trans Z3.out K4.out.size)
      have B4 := Lib.hid (B3.out.trans K4.out)
      have L4 := Lib.hid (Bld.but L3.out hPB K4.out)
      have S4 := Lib.hid hS4
      clear hS4 hb4 K4 c0 c1 c2 c3 c4 c5 c6 c7 cf q0 q1 q2 S3 B3 L3 Z3
      go_wp2_with fail
      refine (bld_byte y L4.out (by have := Hln.out; simp only [List.length_append, List.length_cons, List.length_nil]; omega) (by have := Z4.out; omega)).mono ?_
      rintro e5 w5 ⟨rfl, hl5, hb5, _⟩
      have S5 := Lib.hid (S4.out.below hb5 hPB hMB)
      have B5 := Lib.hid (B4.out.below hb5 (Nat.le_refl _))
      have L5 := Lib.hid hl5
      have Z5 : Hid (w.heap.size + 1 ≤ w5.heap.size) := Lib.hid (Nat.le_trans Z4.out hb5.size)
      clear hl5 hb5 L4 S4 B4 Z4
      go_wp2
      go_roundw
      case rel =>
        have e2 : n1 + 1 = n + 2 := by have := Hn1.out; omega
        exact ⟨d, n1 + 1, f, rfl, by have := Hn1.out; omega, by have := Hn1.out; omega, S5.out, by rw [HT1.out]; exact L5.out, B5.out, Z5.out, by rw [e2]; exact HE⟩
      case measure =>
        have e1 := S5.out.cells.2.1
        have e2 := C1.out
        have := Hn1.out
        simp only [atLeft, e1, e2]; omega
    · have hx92 : l[n] ≠ 92 := by
        intro h
        have hn2 : ¬ n + 1 < l.length := fun h2 => hesc ⟨h, h2⟩
        have h3 := endR_else hE.out hc hesc (by rw [h]; exact Ne.symm he92) (by rw [h]; exact Ne.symm ho92)
        obtain ⟨_, _, h4⟩ := endR_lt h3
        exact hn2 h4
      have t92 : ((l[n].toNat : Int) == 92) = false := by
        simp only [beq_eq_false_iff_ne, ne_eq]
        intro h
        exact hx92 (UInt8.toNat_inj.1 (by simpa using (by omega : l[n].toNat = 92)))
      by_cases hce : l[n] = e
      · have te : ((l[n].toNat : Int) == (e.toNat : Int)) = true := by rw [hce]; simp
        cases d with
        | zero =>
          have hmn := endR_end0 hE.out hc hesc hce
          generalize l[n] = x at *
          have Hmn := Lib.hid hmn
          have Hn1 := Lib.hid hn1
          clear hE hTk HB hc hx92 hce hmn hlen hesc
          clear hlS hn1
          go_wp2_with fail
          go_quiet (fail)
          go_wp2_with fail
          go_quiet (fail)
          go_wp2_with fail
          refine (HST.out _ n (by omega) (S.out.gr ((Gr.refl wr).drewN _))).mono ?_
          rintro e1 w2 ⟨rfl, hS2, hb2⟩
          have K2 := Lib.hid ((But.of_gr (P := P) ((Gr.refl wr).drewN _)).trans hb2)
          have Z2 : Hid (w.heap.size + 1 ≤ w2.heap.size) := Lib.hid (Nat.le_trans Z.out K2.out.size)
          have B2 := Lib.hid (Bu.out.trans K2.out)
          have L2 := Lib.hid (Bld.but Bl.out hPB K2.out)
          rw [← Hn1.out] at hS2
          have S2 := Lib.hid hS2
          clear hS2 hb2 K2 c0 c1 c2 c3 c4 c5 c6 c7 cf q0 q1 q2 S Bu Bl Z
          obtain ⟨c0, c1, c2, c3, c4, c5, c6, c7, cf⟩ := S2.out.cells
          obtain ⟨q0, q1, q2⟩ := (HQ.out.but B2.out hQP).cells
          go_wp2_with fail
          go_quiet (fail)
          go_wp2_with fail
          refine (bld_text (Bld.but L2.out hPB (But.of_gr ((Gr.refl w2).drewN _))) (by have := Z2.out; simp; omega)).mono ?_
          rintro e3 w3 ⟨rfl, hb3⟩
          go_wp2
          go_ret
          rw [Hmn.out]
          exact ⟨rfl, by rw [← Hn1.out]; exact (S2.out.gr ((Gr.refl w2).drewN _)).below hb3 hPB hMB, (B2.out.trans (But.of_gr ((Gr.refl w2).drewN _))).below hb3 (Nat.le_refl _)⟩
        | succ d =>
          have HE := Lib.hid (endR_endS hE.out hc hesc hce)
          have td : ((((d + 1 : Nat) : Int)) == 0) = false := by simp; omega
          have hd1 : ((d + 1 : Nat) : Int) - 1 = (d : Int) := by omega
          have bd : (d : Int) ≤ 9223372036854775807 := by omega
          have bd0 : -9223372036854775808 ≤ (d : Int) := by omega
          obtain ⟨d1, hd1'⟩ : ∃ d1, d1 = d + 1 := ⟨_, rfl⟩
          rw [← hd1'] at td hd1 ⊢
          rw [← hn1] at HE hTk
          generalize l[n] = x at *
          have HT1 := Lib.hid hTk
          have Hn1 := Lib.hid hn1
          have Hln := Lib.hid hlen
          have Hd := Lib.hid hd1'
          clear hE hTk HB hc hx92 hce hlen hesc hd1'
          clear hlS hn1
          go_wp2_with fail
          go_quiet (fail)
          go_wp2_with fail
          go_quiet (fail)
          go_wp2_with fail
          refine (HST.out _ n (by omega) (S.out.gr ((Gr.refl wr).drewN _))).mono ?_
          rintro e1 w2 ⟨rfl, hS2, hb2⟩
          have K2 := Lib.hid ((But.of_gr (P := P) ((Gr.refl wr).drewN _)).trans hb2)
          have Z2 : Hid (w.heap.size + 1 ≤ w2.heap.size) := Lib.hid (Nat.le_trans Z.out K2.out.size)
          have B2 := Lib.hid (Bu.out.trans K2.out)
          have L2 := Lib.hid (Bld.but Bl.out hPB K2.out)
          rw [← Hn1.out] at hS2
          have S2 := Lib.hid hS2
          clear hS2 hb2 K2 c0 c1 c2 c3 c4 c5 c6 c7 cf q0 q1 q2 S Bu Bl Z
          obtain ⟨c0, c1, c2, c3, c4, c5, c6, c7, cf⟩ := S2.out.cells
          obtain ⟨q0, q1, q2⟩ := (HQ.out.but B2.out hQP).cells
          go_wp2_with fail
          go_quiet (fail)
          go_wp2_with fail
          refine (bld_byte x (Bld.but L2.out hPB (But.of_gr ((Gr.refl w2).drewN _))) HBd.out (by have := Z2.out; simp; omega)).mono ?_
          rintro e3 w3 ⟨rfl, hl3, hb3, _⟩
          have S3 := Lib.hid ((S2.out.gr ((Gr.refl w2).drewN _)).below hb3 hPB hMB)
          have B3 := Lib.hid ((B2.out.trans (But.of_gr ((Gr.refl w2).drewN _))).below hb3 (Nat.le_refl _))
          have L3 := Lib.hid hl3
          have Z3 : Hid (w.heap.size + 1 ≤ w3.heap.size) := Lib.hid (Nat.le_trans Z2.out (Nat.le_trans (by simp) hb3.size))
          clear hl3 hb3 L2 S2 B2 Z2 c0 c1 c2 c3 c4 c5 c6 c7 cf q0 q1 q2
          go_wp2
          go_roundw
          all_goals have en1 := Hn1.out
          all_goals have ed1 := Hd.out
          case rel => exact ⟨d, n1, f, rfl, by omega, by omega, S3.out, by rw [HT1.out]; exact L3.out, B3.out, Z3.out, HE.out⟩
          case measure =>
            have e1 := S3.out.cells.2.1
            have e2 := C1.out
            simp only [atLeft, e1, e2]; omega
      · have te : ((l[n].toNat : Int) == (e.toNat : Int)) = false := by
          simp only [beq_eq_false_iff_ne, ne_eq]
          intro h
          exact hce (UInt8.toNat_inj.1 (by omega))
        by_cases hco : l[n] = o
        · have to : ((l[n].toNat : Int) == (o.toNat : Int)) = true := by rw [hco]; simp
          have HE := Lib.hid (endR_open hE.out hc hesc hce hco)
          obtain ⟨d1, hd1'⟩ : ∃ d1, d1 = d + 1 := ⟨_, rfl⟩
          have hw1 : IntKind.i64.wrap ((d : Int) + 1) = (d1 : Int) := by rw [IntKind.wrap_i64]; omega
          have hw2 : wrap64 ((d : Int) + 1) = (d1 : Int) := by simp only [wrap64]; omega
          have Hd := Lib.hid hd1'
          rw [← hn1, ← hd1'] at HE
          rw [← hn1] at hTk
          generalize l[n] = x at *
          have HT1 := Lib.hid hTk
          have Hn1 := Lib.hid hn1
          have Hln := Lib.hid hlen
          clear hE hTk HB hc hx92 hce hlen hesc hco hd1'
          clear hlS hn1
          go_wp2_with fail
          go_quiet (fail)
          go_wp2_with fail
          go_quiet (fail)
          go_wp2_with fail
          refine (HST.out _ n (by omega) (S.out.gr ((Gr.refl wr).drewN _))).mono ?_
          rintro e1 w2 ⟨rfl, hS2, hb2⟩
          have K2 := Lib.hid ((But.of_gr (P := P) ((Gr.refl wr).drewN _)).trans hb2)
          have Z2 : Hid (w.heap.size + 1 ≤ w2.heap.size) := Lib.hid (Nat.le_trans Z.out K2.out.size)
          have B2 := Lib.hid (Bu.out.trans K2.out)
          have L2 := Lib.hid (Bld.but Bl.out hPB K2.out)
          rw [← Hn1.out] at hS2
          have S2 := Lib.hid hS2
          clear hS2 hb2 K2 c0 c1 c2 c3 c4 c5 c6 c7 cf q0 q1 q2 S Bu Bl Z
          obtain ⟨c0, c1, c2, c3, c4, c5, c6, c7, cf⟩ := S2.out.cells
          obtain ⟨q0, q1, q2⟩ := (HQ.out.but B2.out hQP).cells
          go_wp2_with fail
          go_quiet (fail)
          go_wp2_with fail
          refine (bld_byte x (Bld.but L2.out hPB (But.of_gr ((Gr.refl w2).drewN _))) HBd.out (by have := Z2.out; simp; omega)).mono ?_
          rintro e3 w3 ⟨rfl, hl3, hb3, _⟩
          have S3 := Lib.hid ((S2.out.gr ((Gr.refl w2).drewN _)).below hb3 hPB hMB)
          have B3 := Lib.hid ((B2.out.trans (But.of_gr ((Gr.refl w2).drewN _))).below hb3 (Nat.le_refl _))
          have L3 := Lib.hid hl3
          have Z3 : Hid (w.heap.size + 1 ≤ w3.heap.size) := Lib.hid (Nat.le_trans Z2.out (Nat.le_trans (by simp) hb3.size))
          clear hl3 hb3 L2 S2 B2 Z2 c0 c1 c2 c3 c4 c5 c6 c7 cf q0 q1 q2
          clear hw1 hw2
          go_wp2
          go_roundw
          all_goals have en1 := Hn1.out
          all_goals have ed1 := Hd.out
          case rel => exact ⟨d1, n1, f, rfl, by omega, by omega, S3.out, by rw [HT1.out]; exact L3.out, B3.out, Z3.out, HE.out⟩
          case measure =>
            have e1 := S3.out.cells.2.1
            have e2 := C1.out
            simp only [atLeft, e1, e2]; omega
        · have to : ((l[n].toNat : Int) == (o.toNat : Int)) = false := by
            simp only [beq_eq_false_iff_ne, ne_eq]
            intro h
            exact hco (UInt8.toNat_inj.1 (by omega))
          have HE := Lib.hid (endR_else hE.out hc hesc hce hco)
          rw [← hn1] at HE hTk
          generalize l[n] = x at *
          have HT1 := Lib.hid hTk
          have Hn1 := Lib.hid hn1
          have Hln := Lib.hid hlen
          clear hE hTk HB hc hx92 hce hlen hesc hco
          clear hlS hn1
          go_wp2_with fail
          go_quiet (fail)
          go_wp2_with fail
          go_quiet (fail)
          go_wp2_with fail
          refine (HST.out _ n (by omega) (S.out.gr ((Gr.refl wr).drewN _))).mono ?_
          rintro e1 w2 ⟨rfl, hS2, hb2⟩
          have K2 := Lib.hid ((But.of_gr (P := P) ((Gr.refl wr).drewN _)).trans hb2)
          have Z2 : Hid (w.heap.size + 1 ≤ w2.heap.size) := Lib.hid (Nat.le_trans Z.out K2.out.size)
          have B2 := Lib.hid (Bu.out.trans K2.out)
          have L2 := Lib.hid (Bld.but Bl.out hPB K2.out)
          rw [← Hn1.out] at hS2
          have S2 := Lib.hid hS2
          clear hS2 hb2 K2 c0 c1 c2 c3 c4 c5 c6 c7 cf q0 q1 q2 S Bu Bl Z
          obtain ⟨c0, c1, c2, c3, c4, c5, c6, c7, cf⟩ := S2.out.cells
          obtain ⟨q0, q1, q2⟩ := (HQ.out.but B2.out hQP).cells
          go_wp2_with fail
          go_quiet (fail)
          go_wp2_with fail
          refine (bld_byte x (Bld.but L2.out hPB (But.of_gr ((Gr.refl w2).drewN _))) HBd.out (by have := Z2.out; simp; omega)).mono ?_
          rintro e3 w3 ⟨rfl, hl3, hb3, _⟩
          have S3 := Lib.hid ((S2.out.gr ((Gr.refl w2).drewN _)).below hb3 hPB hMB)
          have B3 := Lib.hid ((B2.out.trans (But.of_gr ((Gr.refl w2).drewN _))).below hb3 (Nat.le_refl _))
          have L3 := Lib.hid hl3
          have Z3 : Hid (w.heap.size + 1 ≤ w3.heap.size) := Lib.hid (Nat.le_trans Z2.out (Nat.le_trans (by simp) hb3.size))
          clear hl3 hb3 L2 S2 B2 Z2 c0 c1 c2 c3 c4 c5 c6 c7 cf q0 q1 q2
          go_wp2
          go_roundw
          all_goals have en1 := Hn1.out
          case rel => exact ⟨d, n1, f, rfl, by omega, by omega, S3.out, by rw [HT1.out]; exact L3.out, B3.out, Z3.out, HE.out⟩
          case measure =>
            have e1 := S3.out.cells.2.1
            have e2 := C1.out
            simp only [atLeft, e1, e2]; omega
end Go.Proofs.YtaoehbnjipegoaaDoor
