import Derived.Test.YthmopindibdhnaaGreatDoorQ00
import Derived.Test.YthmopindibdhnaaGreatDoorQ19
import Derived.Lib.TrimAscii
import Derived.Test.YthmopindibdhnaaGreatDoorQ17
import Derived.WalkSmall
import Derived.Deep.RegionLaw
import Derived.Deep.Cut
import Derived.Maps.AppendAt
namespace Go.Proofs.YthmopindibdhnaaGreatDoor.G
open Go.RowKit Go.Shelf Go.Maps
structure RSc (w : World) (P : Nat) (s : ByteArray) (pv : Value) (at_ : Nat) (tv bv : Value) (tm : Bool) (ov : Value) (en : Nat) (sg : Bool) : Prop where
 blk : w.heap[P]? = some (.cells #[.string s, pv, .int .i64 at_, tv, bv, .bool tm, ov, .int .i64 en, .bool sg] 66 (0, 0))
variable {w w' : World} {P : Nat} {s : ByteArray} {pv : Value} {at_ : Nat} {tv bv : Value} {tm : Bool} {ov : Value} {en : Nat} {sg : Bool}
theorem RSc.lt (h : RSc w P s pv at_ tv bv tm ov en sg) : P < w.heap.size := (Ag h.blk).1
theorem RSc.cells (h : RSc w P s pv at_ tv bv tm ov en sg) : w.cell? ⟨P, 0, none⟩ = some (.string s) ∧ w.cell? ⟨P, 1, none⟩ = some pv ∧ w.cell? ⟨P, 2, none⟩ = some (.int .i64 at_) ∧ w.cell? ⟨P, 3, none⟩ = some tv ∧
  w.cell? ⟨P, 4, none⟩ = some bv ∧ w.cell? ⟨P, 5, none⟩ = some (.bool tm) ∧ w.cell? ⟨P, 6, none⟩ = some ov ∧ w.cell? ⟨P, 7, none⟩ = some (.int .i64 en) ∧ w.cell? ⟨P, 8, none⟩ = some (.bool sg) ∧ ∀ j, w.frozen? ⟨P, j, none⟩ = false := by
 simp [World.cell?, World.frozen?, h.blk]
theorem RSc.gr (h : RSc w P s pv at_ tv bv tm ov en sg) (g : Gr w w') : RSc w' P s pv at_ tv bv tm ov en sg := ⟨by rw [g.block _ h.lt]; exact h.blk⟩
theorem RSc.setAt (h : RSc w P s pv at_ tv bv tm ov en sg) (x : Nat) : RSc (w.setCell ⟨P, 2, none⟩ (.int .i64 x)) P s pv x tv bv tm ov en sg := ⟨by simp [World.setCell, Array.getElem?_modify, h.blk]⟩
def atR (m P : Nat) (w : World) : Nat := match w.cell? ⟨P, 2, none⟩ with
 | some (.int _ c) => ((m : Int) - c).toNat
 | _ => 0
theorem RSc.left (h : RSc w P s pv at_ tv bv tm ov en sg) (m : Nat) : atR m P w = ((m : Int) - (at_ : Int)).toNat := by
 unfold atR; rw [h.cells.2.2.1]
set_option maxRecDepth 100000 in
theorem rest_r (h : RSc w P s pv at_ tv bv tm ov en sg) (ha : at_ ≤ s.size) :
  Calls Tryz.prog 53 #[.pointer (some ⟨P, 0, none⟩)] w fun e w' => e = .returned (.string (s.extract at_ s.size)) ∧ Gr w w' := by
 obtain ⟨c0, c1, c2, c3, c4, c5, c6, c7, c8, cf⟩ := h.cells
 have b0 : (at_ : Int) ≤ (s.size : Int) := by omega
 clear h
 go_enter Tryz.func53, Tryz.ntmps53
 go_wp2_with fail
 go_quiet (fail)
 go_wp2_with fail
 go_ret
 exact ⟨rfl, (Gr.refl w).drewN _⟩
theorem skip_c10 (x : Nat × UInt8) (t : Src) (h : x.2 = 10) : skipS true (x :: t) = skipS false (x :: t) := by
 rw [skipS, if_pos h, skipS, if_pos (by rw [h]; rfl)]
theorem skip_cs (x : Nat × UInt8) (t : Src) (h : x.2 ≠ 10) : skipS true (x :: t) = skipS true t := by rw [skipS, if_neg h]
theorem skip_35 (x : Nat × UInt8) (t : Src) (h : x.2 = 35) : skipS false (x :: t) = skipS true (x :: t) := by
 rw [skip_cs x t (by rw [h]; decide), skipS, if_neg (by rw [h]; decide), if_pos h]
theorem skip_bl (x : Nat × UInt8) (t : Src) (h : blkB x.2.toNat = true) : skipS false (x :: t) = skipS false t := by rw [skipS, if_pos h]
theorem skip_no (x : Nat × UInt8) (t : Src) (h : blkB x.2.toNat = false) (h2 : x.2 ≠ 35) : skipS false (x :: t) = x :: t := by rw [skipS, if_neg (by rw [h]; decide), if_neg h2]
theorem byt_at {S : Src} {s : ByteArray} (h : s.data.toList = byt S) (n : Nat) (h1 : n < s.size) (h2 : n < S.length) : s[n] = S[n].2 := by
 have h3 : n < s.data.toList.length := by rw [sizeL]; exact h1
 rw [byteE s n h1 h3]
 have : s.data.toList[n] = (byt S)[n]'(by rw [byt_len]; exact h2) := by simp only [h]
 rw [this]; simp [byt]
set_option maxRecDepth 100000 in
set_option maxHeartbeats 2000000 in
theorem skip_r (h : RSc w P s pv at_ tv bv tm ov en sg) (S : Src) (hS : s.data.toList = byt S) (ha : at_ ≤ s.size) (hs : s.size ≤ 100000) :
  Calls Tryz.prog 34 #[.pointer (some ⟨P, 0, none⟩)] w fun e w' => ∃ b : Nat, e = .returned (.tuple #[]) ∧ RSc w' P s pv b tv bv tm ov en sg ∧ But P w w' ∧ at_ ≤ b ∧ b ≤ s.size ∧ S.drop b = skipS false (S.drop at_) := by
 have H := Lh h
 have hsz : s.size = S.length := by rw [← sizeL, hS, byt_len]
 have Hsz := Lh hsz
 have HB := Lh (fun n h1 h2 => byt_at hS n h1 h2)
 have HK := Lh blk_r
 obtain ⟨R, hR⟩ : ∃ R, R = skipS false (S.drop at_) := ⟨_, rfl⟩
 have HR := Lh hR
 rw [← hR]
 have Ha := Lh ha
 clear h hsz hR hS ha
 go_enter Tryz.func34, Tryz.ntmps34
 go_wp2_with fail
 go_loopw [] (fun wr => ∃ n : Nat, Hid (at_ ≤ n) ∧ Hid (n ≤ s.size) ∧ Hid (RSc wr P s pv n tv bv tm ov en sg) ∧ Hid (But P w wr) ∧ Hid (R = skipS false (S.drop n))) (fun wr => atR s.size P wr)
 case atStart => exact ⟨at_, Lh (Nat.le_refl _), Ha, H, Lh (But.refl P w), HR⟩
 case round =>
  obtain ⟨n, Han, Hns, Sn, Bn, Rn⟩ := hrel
  clear HR
  obtain ⟨c0, c1, c2, c3, c4, c5, c6, c7, c8, cf⟩ := Sn.out.cells
  by_cases hc : n < s.size
  ·have hci : (n : Int) < (s.size : Int) := by omega
   have hL : n < S.length := by rw [← Hsz.out]; exact hc
   have ex := HB.out n hc hL
   have hdr := List.drop_eq_getElem_cons hL
   have Hdr := Lh hdr
   have hi1 : (n : Int) + 1 ≤ 9223372036854775807 := by omega
   have hi2 : -9223372036854775808 ≤ (n : Int) + 1 := by omega
   clear hdr
   obtain ⟨x, hx⟩ : ∃ x, x = S[n] := ⟨_, rfl⟩
   rw [← hx] at ex Hdr
   by_cases h35 : x.2 = 35
   ·have t1 : ((x.2.toNat : Int) == 35) = true := by rw [h35]; rfl
    have RC : Hid (R = skipS true (S.drop n)) := Lh (by rw [Rn.out, Hdr.out, skip_35 _ _ h35])
    have H35 : Hid (∀ h : n < S.length, S[n].2 = 35) := Lh (fun _ => by rw [← hx]; exact h35)
    clear hx h35 Hdr Rn
    go_wp2_with fail
    go_quiet (fail)
    have G1 : Hid (Gr wr (wr.drewN nq)) := Lh ((Gr.refl wr).drewN _)
    generalize wr.drewN nq = W1 at *
    have S1 := Lh (Sn.out.gr G1.out)
    clear c0 c1 c2 c3 c4 c5 c6 c7 c8 cf
    obtain ⟨c0, c1, c2, c3, c4, c5, c6, c7, c8, cf⟩ := S1.out.cells
    go_wp2_with fail
    go_quiet (fail)
    have G2 : Hid (Gr wr (W1.drewN nq)) := Lh (G1.out.drewN _)
    generalize W1.drewN nq = W2 at *
    have S2 := Lh (Sn.out.gr G2.out)
    clear c0 c1 c2 c3 c4 c5 c6 c7 c8 cf
    obtain ⟨c0, c1, c2, c3, c4, c5, c6, c7, c8, cf⟩ := S2.out.cells
    go_wp2_with fail
    have HSn := Lh (Sn.out.left s.size)
    have Hc := Lh hc
    clear c0 c1 c2 c3 c4 c5 c6 c7 c8 cf ex hci hi1 hi2 t1 S1 G1
    go_loopw [] (fun wz => ∃ m : Nat, Hid (n ≤ m) ∧ Hid (m ≤ s.size) ∧ Hid (RSc wz P s pv m tv bv tm ov en sg) ∧ Hid (But P w wz) ∧ Hid (R = skipS true (S.drop m))) (fun wz => atR s.size P wz)
    case atStart => exact ⟨n, Lh (Nat.le_refl _), Hns, S2, Lh (Bn.out.trans (But.of_gr G2.out)), RC⟩
    case round =>
     obtain ⟨m, Hnm, Hms, Sm, Bm, Rm⟩ := hrel
     obtain ⟨c0, c1, c2, c3, c4, c5, c6, c7, c8, cf⟩ := Sm.out.cells
     by_cases hm : m < s.size
     ·have hmi : (m : Int) < (s.size : Int) := by omega
      have hmL : m < S.length := by rw [← Hsz.out]; exact hm
      have ey := HB.out m hm hmL
      have hdr := List.drop_eq_getElem_cons hmL
      obtain ⟨y, hy⟩ : ∃ y, y = S[m] := ⟨_, rfl⟩
      rw [← hy] at ey hdr
      have hj1 : (m : Int) + 1 ≤ 9223372036854775807 := by omega
      have hj2 : -9223372036854775808 ≤ (m : Int) + 1 := by omega
      by_cases h10 : y.2 = 10
      ·have t2 : ((y.2.toNat : Int) != 10) = false := by rw [h10]; rfl
       have hnm : n < m := by
        have := Hnm.out
        by_cases e : n = m
        ·subst e
         have := H35.out hmL
         rw [← hy, h10] at this
         exact absurd this (by decide)
        ·omega
       have RD : Hid (R = skipS false (S.drop m)) := Lh (by rw [Rm.out, hdr, skip_c10 _ _ h10])
       have Hnm2 := Lh hnm
       clear hy h10 hdr hnm
       go_wp2_with fail
       go_quiet (fail)
       go_wp2_with fail
       have S4 := Lh (Sm.out.gr ((Gr.refl wr).drewN nq))
       go_roundw
       case rel => exact ⟨m, Lh (by have := Han.out; have := Hnm.out; omega), Hms, S4, Lh (Bm.out.trans (But.of_gr ((Gr.refl wr).drewN nq))), RD⟩
       case measure =>
        rw [HSn.out, S4.out.left]
        have := Hnm2.out
        have := Hc.out
        omega
      ·have t2 : ((y.2.toNat : Int) != 10) = true := by have := u8_bne y.2 10; rw [show ((10 : UInt8).toNat : Int) = 10 from rfl] at this; rw [this]; simpa using h10
       have RD : Hid (R = skipS true (S.drop (m + 1))) := Lh (by rw [Rm.out, hdr, skip_cs _ _ h10])
       clear hy h10 hdr
       go_wp2_with fail
       go_quiet (fail)
       go_wp2_with fail
       have S4 := Lh ((Sm.out.gr ((Gr.refl wr).drewN nq)).setAt (m + 1))
       go_roundw
       case rel => exact ⟨m + 1, Lh (by have := Hnm.out; omega), Lh hm, S4, Lh ((Bm.out.trans (But.of_gr ((Gr.refl wr).drewN nq))).trans (But.set 2 (.int .i64 ((m + 1 : Nat) : Int)))), RD⟩
       case measure =>
        have e1 := Sm.out.left s.size
        have e2 := S4.out.left s.size
        show atR s.size P ((wr.drewN nq).setCell ⟨P, 2, none⟩ (.int .i64 ((m + 1 : Nat) : Int))) < _
        rw [e1, e2]
        omega
     ·have hmi : decide ((m : Int) < (s.size : Int)) = false := by simp; omega
      have hmi2 : ¬ (m : Int) < (s.size : Int) := by omega
      have hmi3 : decide (m < s.size) = false := decide_eq_false hm
      have hnm : n < m := by have := Hc.out; omega
      have Hnm2 := Lh hnm
      have RD : Hid (R = skipS false (S.drop m)) := Lh (by rw [Rm.out, List.drop_eq_nil_of_le (by rw [← Hsz.out]; omega)]; rfl)
      clear hm hnm
      go_wp2_with fail
      go_quiet (fail)
      go_wp2_with fail
      have S4 := Lh (Sm.out.gr ((Gr.refl wr).drewN nq))
      go_roundw
      case rel => exact ⟨m, Lh (by have := Han.out; have := Hnm.out; omega), Hms, S4, Lh (Bm.out.trans (But.of_gr ((Gr.refl wr).drewN nq))), RD⟩
      case measure =>
       rw [HSn.out, S4.out.left]
       have := Hnm2.out
       have := Hc.out
       omega
   ·have t1 : ((x.2.toNat : Int) == 35) = false := u8_neq (y := 35) h35
    have HKx := Lh (fun w => HK.out x.2.toNat w)
    cases hb : blkB x.2.toNat with
    | true =>
     rw [hb] at HKx
     have RC : Hid (R = skipS false (S.drop (n + 1))) := Lh (by rw [Rn.out, Hdr.out, skip_bl _ _ hb])
     clear hx h35 Hdr Rn hb
     go_wp2_with fail
     go_quiet (fail)
     have G1 : Hid (Gr wr (wr.drewN nq)) := Lh ((Gr.refl wr).drewN _)
     generalize wr.drewN nq = W1 at *
     have S1 := Lh (Sn.out.gr G1.out)
     clear c0 c1 c2 c3 c4 c5 c6 c7 c8 cf
     obtain ⟨c0, c1, c2, c3, c4, c5, c6, c7, c8, cf⟩ := S1.out.cells
     go_wp2_with fail
     go_quiet (fail)
     have G2 : Hid (Gr wr (W1.drewN nq)) := Lh (G1.out.drewN _)
     generalize W1.drewN nq = W2 at *
     have S2 := Lh (Sn.out.gr G2.out)
     clear c0 c1 c2 c3 c4 c5 c6 c7 c8 cf
     obtain ⟨c0, c1, c2, c3, c4, c5, c6, c7, c8, cf⟩ := S2.out.cells
     go_wp2_with fail
     go_quiet ((go_at_call 51; exact quiet_at (HKx.out _)))
     go_wp2_with fail
     have S3 := Lh ((S2.out.gr ((Gr.refl W2).drewN nq)).setAt (n + 1))
     have B3 := Lh ((Bn.out.trans (But.of_gr (G2.out.trans ((Gr.refl W2).drewN nq)))).trans (But.set 2 (.int .i64 ((n + 1 : Nat) : Int))))
     go_roundw
     case rel => exact ⟨n + 1, Lh (by have := Han.out; omega), Lh hc, S3, B3, RC⟩
     case measure =>
      have e1 := Sn.out.left s.size
      have e2 := S3.out.left s.size
      show atR s.size P ((W2.drewN nq).setCell ⟨P, 2, none⟩ (.int .i64 ((n + 1 : Nat) : Int))) < _
      rw [e1, e2]
      omega
    | false =>
     rw [hb] at HKx
     have HE : Hid (R = S.drop n) := Lh (by rw [Rn.out, Hdr.out, skip_no _ _ hb h35])
     clear hx h35 Hdr Rn hb
     go_wp2_with fail
     go_quiet (fail)
     have G1 : Hid (Gr wr (wr.drewN nq)) := Lh ((Gr.refl wr).drewN _)
     generalize wr.drewN nq = W1 at *
     have S1 := Lh (Sn.out.gr G1.out)
     clear c0 c1 c2 c3 c4 c5 c6 c7 c8 cf
     obtain ⟨c0, c1, c2, c3, c4, c5, c6, c7, c8, cf⟩ := S1.out.cells
     go_wp2_with fail
     go_quiet (fail)
     have G2 : Hid (Gr wr (W1.drewN nq)) := Lh (G1.out.drewN _)
     generalize W1.drewN nq = W2 at *
     have S2 := Lh (Sn.out.gr G2.out)
     clear c0 c1 c2 c3 c4 c5 c6 c7 c8 cf
     obtain ⟨c0, c1, c2, c3, c4, c5, c6, c7, c8, cf⟩ := S2.out.cells
     go_wp2_with fail
     go_quiet ((go_at_call 51; exact quiet_at (HKx.out _)))
     go_wp2_with fail
     refine bodyPost_ret (v := .tuple #[]) (by simp [results, Tryz.results34]) rfl ?_
     exact ⟨n, rfl, S2.out.gr ((Gr.refl _).drewN _), Bn.out.trans (But.of_gr (G2.out.trans ((Gr.refl _).drewN _))), Han.out, Hns.out, HE.out.symm⟩
  ·have hci : decide ((n : Int) < (s.size : Int)) = false := by simp; omega
   have hci2 : ¬ (n : Int) < (s.size : Int) := by omega
   have hci3 : decide (n < s.size) = false := decide_eq_false hc
   have hne : n = s.size := by have := Hns.out; omega
   have HE : Hid (R = S.drop n) := Lh (by rw [Rn.out, List.drop_eq_nil_of_le (by rw [← Hsz.out]; omega)]; rfl)
   clear hc hne
   go_wp2_with fail
   go_quiet (fail)
   go_wp2_with fail
   go_end0
   exact ⟨n, rfl, Sn.out.gr ((Gr.refl _).drewN _), Bn.out.trans (But.of_gr ((Gr.refl _).drewN _)), Han.out, Hns.out, HE.out.symm⟩
end Go.Proofs.YthmopindibdhnaaGreatDoor.G
namespace Go.Proofs.YthmopindibdhnaaGreatDoor.G
open Go.RowKit Go.Shelf Go.Maps
def signsA : List ByteArray := signsL.map ba
set_option maxRecDepth 100000 in
theorem signs_r (W : World) : Calls Tryz.prog 77 #[] W fun e w' => e = .returned (.slice (some ⟨W.heap.size, 0, none⟩) 48 48) ∧ TextsAt w' W.heap.size signsA ∧ Gr W w' := by
 go_enter Tryz.func77, Tryz.ntmps77
 go_wp2_with fail
 go_ret
 exact ⟨rfl, texts_alloc W signsA _, (Gr.refl W).alloc _⟩
def bestN (l : List UInt8) : List (List UInt8) → Nat → Nat
 | [], b => b
 | g :: gs, b => bestN l gs (if b < g.length ∧ l.take g.length = g then g.length else b)
theorem bestN_ge (l : List UInt8) : ∀ gs b, b ≤ bestN l gs b
 | [], b => Nat.le_refl b
 | g :: gs, b => by
  rw [bestN]
  refine Nat.le_trans ?_ (bestN_ge l gs _)
  split <;> omega
theorem bestN_is (l : List UInt8) : ∀ gs b, bestN l gs b = b ∨ (∃ g ∈ gs, g.length = bestN l gs b ∧ l.take g.length = g)
 | [], b => .inl rfl
 | g :: gs, b => by
  rw [bestN]
  split
  ·rename_i h
   rcases bestN_is l gs g.length with e | ⟨k, h1, h2, h3⟩
   ·exact .inr ⟨g, by simp, e.symm, h.2⟩
   ·exact .inr ⟨k, by simp [h1], h2, h3⟩
  ·rcases bestN_is l gs b with e | ⟨k, h1, h2, h3⟩
   ·exact .inl e
   ·exact .inr ⟨k, by simp [h1], h2, h3⟩
theorem bestN_max (l : List UInt8) : ∀ gs b g, g ∈ gs → l.take g.length = g → g.length ≤ bestN l gs b
 | g0 :: gs, b, g, hg, ht => by
  rw [bestN]
  rcases List.mem_cons.1 hg with rfl | hg
  ·split
   ·exact bestN_ge l gs _
   ·rename_i h
    have : g.length ≤ b := by
     by_cases h2 : b < g.length
     ·exact absurd ⟨h2, ht⟩ h
     ·omega
    exact Nat.le_trans this (bestN_ge l gs _)
  ·exact bestN_max l gs _ g hg ht
theorem signGo_max (l : List UInt8) : ∀ n m, m ≤ n → isSignB (l.take m) = true → m ≤ signGo l n
 | 0, m, h, _ => h
 | n + 1, m, h, hs => by
  rw [signGo]
  split
  ·exact h
  ·rename_i hc
   by_cases e : m = n + 1
   ·subst e; exact absurd hs hc
   ·exact signGo_max l n m (by omega) hs
theorem best_sign (l : List UInt8) : bestN l signsL 0 = signN l := by
 have hlen : ∀ g ∈ signsL, g.length ≤ 3 ∧ 0 < g.length := by decide
 apply Nat.le_antisymm
 ·rcases bestN_is l signsL 0 with e | ⟨g, h1, h2, h3⟩
  ·omega
  ·rw [← h2]
   have hl : g.length ≤ l.length := by
    have := congrArg List.length h3
    rw [List.length_take] at this; omega
   refine signGo_max l _ _ ?_ ?_
   ·have := (hlen g h1).1; omega
   ·rw [h3]; unfold isSignB; simpa using h1
 ·by_cases h0 : 0 < signN l
  ·have hi := signGo_is l _ h0
   have hle : signN l ≤ l.length := Nat.le_trans (signGo_le l _) (Nat.min_le_right _ _)
   have hm : l.take (signN l) ∈ signsL := by
    have : isSignB (l.take (signN l)) = true := hi
    unfold isSignB at this; simpa using this
   have hll : (l.take (signN l)).length = signN l := by rw [List.length_take]; omega
   have := bestN_max l signsL 0 (l.take (signN l)) hm (by rw [hll])
   omega
  ·omega
end Go.Proofs.YthmopindibdhnaaGreatDoor.G
namespace Go.Proofs.YthmopindibdhnaaGreatDoor.G
open Go.RowKit Go.Shelf Go.Maps
variable {w w' : World} {P : Nat} {s : ByteArray} {pv : Value} {at_ : Nat} {tv bv : Value} {tm : Bool} {ov : Value} {en : Nat} {sg : Bool} {toks : List Tok}
def begB (t : Tok) : Bool := t.kind == 3 && (t.text.toList == [59] || ((t.text.toList == [123] || t.text.toList == [125]) && t.opn == 1))
set_option maxRecDepth 100000 in
set_option maxHeartbeats 2000000 in
theorem begins_r {base : Nat} (h : RSc w P s pv at_ tv bv tm ov en sg) (hO : OwnT w base tv toks) (hl : toks.length ≤ 100000) (i : Nat) (hi : i < toks.length) :
  Calls Tryz.prog 98 #[.pointer (some ⟨P, 0, none⟩), .int .i64 ((i + 1 : Nat) : Int)] w fun e w' => e = .returned (.bool (begB toks[i])) ∧ Gr w w' := by
 obtain ⟨g, cap, rfl, hg, hgs, x0, x1, x2, x3, x4, x5⟩ := tok_at hO hi
 obtain ⟨c0, c1, c2, c3, c4, c5, c6, c7, c8, cf⟩ := h.cells
 obtain ⟨t, ht⟩ : ∃ t, t = toks[i] := ⟨_, rfl⟩
 rw [← ht] at x0 x1 x2 x3 x4 x5 ⊢
 obtain ⟨n, hn⟩ : ∃ n, n = i + 1 := ⟨_, rfl⟩
 rw [← hn]
 have n0 : ((n : Int) == 0) = false := by simp; omega
 have n1 : (n : Int) - 1 = (i : Int) := by omega
 have n2 : (i : Int) < (toks.length : Int) := by omega
 have hwi : IntKind.i64.wrap (i : Int) = (i : Int) := by rw [IntKind.wrap_i64]; omega
 have G1 := Lh ((Gr.refl w).alloc (.cells #[.int .i64 0, .int .i64 0, .string ⟨#[]⟩, .string ⟨#[]⟩, .string ⟨#[]⟩, .int .i64 0] 42))
 have K1 := Lh (heap_alloc_new w (.cells #[.int .i64 0, .int .i64 0, .string ⟨#[]⟩, .string ⟨#[]⟩, .string ⟨#[]⟩, .int .i64 0] 42))
 obtain ⟨R, hR⟩ : ∃ R, R = begB t := ⟨_, rfl⟩
 have HR := Lh hR
 rw [← hR]
 clear h hO hn ht hi hR
 go_enter Tryz.func98, Tryz.ntmps98
 go_wp2_with (refine wpList_store_tok rfl (.tmp 5) (.tmp 15) rfl (t := t) rfl rfl K1.out rfl ?_)
 intro W9 hb9 hk9
 have B9 := Lh hb9
 have K9 := Lh hk9
 clear hb9 hk9 c0 c1 c2 c3 c4 c5 c6 c7 c8 cf x0 x1 x2 x3 x4 x5
 obtain ⟨kc, _⟩ := cellsOf K9.out
 have k0 := kc 0
 have k2 := kc 2
 have k5 := kc 5
 simp [Tok.cells] at k0 k2 k5
 clear kc
 have HB : Hid (R = (t.kind == 3 && (t.text.toList == [59] || ((t.text.toList == [123] || t.text.toList == [125]) && t.opn == 1)))) := Lh HR.out
 have GF : Hid (Gr w W9) := Lh (But_gr ((But.of_gr G1.out).late (Nat.le_refl _) B9.out))
 clear HR
 by_cases hk : t.kind = 3
 ·have q0 : (t.kind == 3) = true := by simpa using hk
  clear hk
  go_wp2
  all_goals
   go_ret
   refine ⟨?_, GF.out⟩
   rw [HB.out]
   simp_all
 ·have q0 : (t.kind == 3) = false := by simpa using hk
  clear hk
  go_wp2_with fail
  go_ret
  exact ⟨by rw [HB.out, q0]; rfl, GF.out⟩
end Go.Proofs.YthmopindibdhnaaGreatDoor.G
namespace Go.Proofs.YthmopindibdhnaaGreatDoor.G
open Go.RowKit Go.Shelf Go.Maps
theorem dec_ascii (c : UInt8) (t : List UInt8) (h : c.toNat < 128) : Lib.decodeL (c :: t) = (c.toNat, 1) := Lib.decodeL_ascii c t h
theorem own_space : ∀ c : UInt8, ownC c = true → c.toNat < 128 ∧ Lib.isSpaceR c.toNat = blkB (c.toNat : Int) := by
 have H : ∀ n : Fin 256, ownC (UInt8.ofNat n.val) = true → (UInt8.ofNat n.val).toNat < 128 ∧ Lib.isSpaceR (UInt8.ofNat n.val).toNat = blkB ((UInt8.ofNat n.val).toNat : Int) := by
  decide +kernel
 intro o
 have := H ⟨o.toNat, o.toNat_lt⟩
 simpa using this
def oneF (cur : List UInt8) : List (List UInt8) := if cur = [] then [] else [cur]
theorem fields_nil (f : Nat) (cur : List UInt8) : Lib.fieldsGoD f cur [] = oneF cur := by
 cases f <;> rfl
theorem fields_blk {f : Nat} {cur t : List UInt8} {c : UInt8} (ho : ownC c = true) (hb : blkB (c.toNat : Int) = true) : Lib.fieldsGoD (f + 1) cur (c :: t) = oneF cur ++ Lib.fieldsGoD f [] t := by
 obtain ⟨h1, h2⟩ := own_space c ho
 rw [Lib.fieldsGoD, if_neg (by simp), dec_ascii c t h1, if_pos (by rw [h2]; exact hb)]
 rfl
theorem fields_on {f : Nat} {cur t : List UInt8} {c : UInt8} (ho : ownC c = true) (hb : blkB (c.toNat : Int) = false) : Lib.fieldsGoD (f + 1) cur (c :: t) = Lib.fieldsGoD f (cur ++ [c]) t := by
 obtain ⟨h1, h2⟩ := own_space c ho
 rw [Lib.fieldsGoD, if_neg (by simp), dec_ascii c t h1, if_neg (by rw [h2, hb]; decide)]
 rfl
theorem fields_ne : ∀ (f : Nat) (cur l : List UInt8), cur ≠ [] → Lib.fieldsGoD f cur l ≠ []
 | 0, cur, l, h => by rw [Lib.fieldsGoD, if_neg h]; simp
 | f + 1, cur, l, h => by
  rw [Lib.fieldsGoD, if_neg h]
  split
  ·simp
  ·split
   ·simp
   ·exact fields_ne f _ _ (by simp [h])
theorem tail_join {xs : List (List UInt8)} (h : xs ≠ []) : Lib.joinTail [32] xs = 32 :: Lib.join xs [32] := by
 cases xs with
 | nil => exact absurd rfl h
 | cons x r => rw [Lib.join_cons]; simp [Lib.joinTail]
mutual
theorem wo_in : ∀ (l : List UInt8) (f : Nat) (p cur : List UInt8), (∀ c ∈ l, ownC c = true) → l.length ≤ f → cur ≠ [] → woR (p ++ cur) false l = p ++ Lib.join (Lib.fieldsGoD f cur l) [32]
 | [], f, p, cur, _, _, h => by rw [fields_nil, oneF, if_neg h, Lib.join_one]; rfl
 | c :: t, 0, _, _, _, hl, _ => absurd hl (by simp)
 | c :: t, f + 1, p, cur, ho, hl, h => by
  have hc := ho c (by simp)
  have ht : ∀ d ∈ t, ownC d = true := fun d hd => ho d (by simp [hd])
  cases hb : blkB (c.toNat : Int) with
  | true =>
   rw [woR, if_pos hb, fields_blk hc hb, oneF, if_neg h, List.singleton_append, Lib.join_cons, wo_mid t f (p ++ cur) ht (by simp at hl; omega) (by simp [h]), List.append_assoc]
  | false =>
   rw [woR, if_neg (by rw [hb]; decide), if_neg (fun e => absurd e.2 (by decide)), List.append_assoc, wo_in t f p (cur ++ [c]) ht (by simp at hl; omega) (by simp), fields_on hc hb]
theorem wo_mid : ∀ (l : List UInt8) (f : Nat) (x : List UInt8), (∀ c ∈ l, ownC c = true) → l.length ≤ f → x ≠ [] → woR x true l = x ++ Lib.joinTail [32] (Lib.fieldsGoD f [] l)
 | [], f, x, _, _, _ => by rw [fields_nil]; simp [woR, oneF, Lib.joinTail]
 | c :: t, 0, _, _, hl, _ => absurd hl (by simp)
 | c :: t, f + 1, x, ho, hl, h => by
  have hc := ho c (by simp)
  have ht : ∀ d ∈ t, ownC d = true := fun d hd => ho d (by simp [hd])
  cases hb : blkB (c.toNat : Int) with
  | true =>
   rw [woR, if_pos hb, fields_blk hc hb, oneF, if_pos rfl, List.nil_append, wo_mid t f x ht (by simp at hl; omega) h]
  | false =>
   rw [woR, if_neg (by rw [hb]; decide), if_pos ⟨h, rfl⟩, wo_in t f (x ++ [32]) [c] ht (by simp at hl; omega) (by simp), fields_on hc hb, List.nil_append, tail_join (fields_ne f [c] t (by simp))]
   simp
end
theorem wo_start : ∀ (l : List UInt8) (f : Nat) (pb : Bool), (∀ c ∈ l, ownC c = true) → l.length ≤ f → woR [] pb l = Lib.join (Lib.fieldsGoD f [] l) [32]
 | [], f, pb, _, _ => by rw [fields_nil]; rfl
 | c :: t, 0, _, _, hl => absurd hl (by simp)
 | c :: t, f + 1, pb, ho, hl => by
  have hc := ho c (by simp)
  have ht : ∀ d ∈ t, ownC d = true := fun d hd => ho d (by simp [hd])
  cases hb : blkB (c.toNat : Int) with
  | true => rw [woR, if_pos hb, fields_blk hc hb, oneF, if_pos rfl, List.nil_append, wo_start t f true ht (by simp at hl; omega)]
  | false =>
   have := wo_in t f [] [c] ht (by simp at hl; omega) (by simp)
   rw [woR, if_neg (by rw [hb]; decide), if_neg (fun e => e.1 rfl), fields_on hc hb, List.nil_append, ← List.nil_append [c], this]
   rfl
theorem words_eq (l : List UInt8) (h : ∀ c ∈ l, ownC c = true) : wordsP l = wordsR l := (wo_start l _ false h (Nat.le_succ _)).symm
end Go.Proofs.YthmopindibdhnaaGreatDoor.G
namespace Go.Proofs.YthmopindibdhnaaGreatDoor.G
open Go.RowKit Go.Shelf Go.Maps
variable {w w' : World} {P : Nat} {s : ByteArray} {pv : Value} {at_ : Nat} {tv bv : Value} {tm : Bool} {ov : Value} {en : Nat} {sg : Bool} {toks : List Tok}
theorem begB_rend {t : RTok} {b : Bool} (h : RInv t b) : begB (rend t) = endsS t := by
 have h1 := isSgT_rend h [59]
 have h2 := isSgT_rend h [123]
 have h3 := isSgT_rend h [125]
 have h4 : ((rend t).opn == 1) = (t.opn == 1) := opn_rend t 1
 unfold begB endsS
 rw [← h1, ← h2, ← h3, h4]
 unfold isSgT
 rw [ByteArray.toList_eq]
 cases ((rend t).kind == 3) <;> simp
set_option maxRecDepth 100000 in
theorem begins_0 (w : World) : Calls Tryz.prog 98 #[.pointer (some ⟨P, 0, none⟩), .int .i64 0] w fun e w' => e = .returned (.bool true) ∧ Gr w w' := by
 go_enter Tryz.func98, Tryz.ntmps98
 go_wp2_with fail
 go_ret
 exact ⟨rfl, Gr.refl w⟩
theorem toksOf_app (a b : List RTok) : toksOf (a ++ b) = toksOf b ++ toksOf a := by simp [toksOf]
theorem RInvs.drop : ∀ {a b : List RTok} {tms : List Bool}, RInvs (a ++ b) tms → RInvs b (tms.drop a.length)
 | [], _, _, h => h
 | _ :: a, b, _ :: _, h => RInvs.drop (a := a) (b := b) h.2
 | _ :: _, _, [], h => h.elim
theorem begins_g {base : Nat} {xs ys : List RTok} {tms : List Bool} (h : RSc w P s pv at_ tv bv tm ov en sg) (hO : OwnT w base tv (toksOf (xs ++ ys))) (hI : RInvs (xs ++ ys) tms) (hl : (xs ++ ys).length ≤ 100000) :
  Calls Tryz.prog 98 #[.pointer (some ⟨P, 0, none⟩), .int .i64 ((ys.length : Nat) : Int)] w fun e w' => e = .returned (.bool (begS ys)) ∧ Gr w w' := by
 cases ys with
 | nil => exact begins_0 w
 | cons y ys =>
  have hlen : (toksOf (xs ++ y :: ys)).length = xs.length + ys.length + 1 := by rw [toksOf_len]; simp; omega
  have hi : ys.length < (toksOf (xs ++ y :: ys)).length := by omega
  have hd := hI.drop
  have hy : (toksOf (xs ++ y :: ys))[ys.length] = rend y := by
   have e : toksOf (xs ++ y :: ys) = (toksOf ys ++ [rend y]) ++ toksOf xs := by rw [toksOf_app, toksOf_cons]
   simp only [e]
   rw [List.getElem_append_left (by simp [toksOf_len]), List.getElem_append_right (by simp [toksOf_len])]
   simp [toksOf_len]
  have hb := begins_r h hO (by rw [hlen]; simp at hl; omega) ys.length hi
  rw [hy] at hb
  have he : begB (rend y) = begS (y :: ys) := by
   match tms.drop xs.length, hd with
   | b :: bs, hd => exact begB_rend hd.1
   | [], hd => exact hd.elim
  rw [he] at hb
  exact hb
end Go.Proofs.YthmopindibdhnaaGreatDoor.G
namespace Go.Proofs.YthmopindibdhnaaGreatDoor.G
open Go.RowKit Go.Shelf Go.Maps
variable {w w' X : World} {P : Nat} {s : ByteArray} {pv : Value} {at_ : Nat} {tv bv : Value} {tm : Bool} {ov : Value} {en : Nat} {sg : Bool}
theorem RSc.grown {r : Option Nat} (h : RSc w P s pv at_ tv bv tm ov en sg) (k : w.grownBy w' r) (h1 : r ≠ some P) : RSc w' P s pv at_ tv bv tm ov en sg := ⟨by rw [k.block _ h.lt (fun e => h1 e.symm)]; exact h.blk⟩
theorem RSc.setTv (h : RSc w P s pv at_ tv bv tm ov en sg) (x : Value) : RSc (w.setCell ⟨P, 3, none⟩ x) P s pv at_ x bv tm ov en sg := ⟨by simp [World.setCell, Array.getElem?_modify, h.blk]⟩
theorem RSc.setBv (h : RSc w P s pv at_ tv bv tm ov en sg) (x : Value) : RSc (w.setCell ⟨P, 4, none⟩ x) P s pv at_ tv x tm ov en sg := ⟨by simp [World.setCell, Array.getElem?_modify, h.blk]⟩
theorem RSc.setTm (h : RSc w P s pv at_ tv bv tm ov en sg) (x : Bool) : RSc (w.setCell ⟨P, 5, none⟩ (.bool x)) P s pv at_ tv bv x ov en sg := ⟨by simp [World.setCell, Array.getElem?_modify, h.blk]⟩
theorem RSc.setOv (h : RSc w P s pv at_ tv bv tm ov en sg) (x : Value) : RSc (w.setCell ⟨P, 6, none⟩ x) P s pv at_ tv bv tm x en sg := ⟨by simp [World.setCell, Array.getElem?_modify, h.blk]⟩
theorem RSc.setEn (h : RSc w P s pv at_ tv bv tm ov en sg) (x : Nat) : RSc (w.setCell ⟨P, 7, none⟩ (.int .i64 x)) P s pv at_ tv bv tm ov x sg := ⟨by simp [World.setCell, Array.getElem?_modify, h.blk]⟩
theorem RSc.setSg (h : RSc w P s pv at_ tv bv tm ov en sg) (x : Bool) : RSc (w.setCell ⟨P, 8, none⟩ (.bool x)) P s pv at_ tv bv tm ov en x := ⟨by simp [World.setCell, Array.getElem?_modify, h.blk]⟩
theorem RSc.setS (h : RSc w P s pv at_ tv bv tm ov en sg) (x : ByteArray) : RSc (w.setCell ⟨P, 0, none⟩ (.string x)) P x pv at_ tv bv tm ov en sg := ⟨by simp [World.setCell, Array.getElem?_modify, h.blk]⟩
theorem RSc.setPv (h : RSc w P s pv at_ tv bv tm ov en sg) (x : Value) : RSc (w.setCell ⟨P, 1, none⟩ x) P s x at_ tv bv tm ov en sg := ⟨by simp [World.setCell, Array.getElem?_modify, h.blk]⟩
abbrev OwnP (w : World) (base : Nat) (v : Value) (S : Src) : Prop := w.ownsRow base 3 1 v S.length (S.map fun x => Value.int .i64 (x.1 : Int))
def KeepI (base : Nat) (w w' : World) : Prop := ∀ i cur, base ≤ i → w.heap[i]? = some (.cells cur 3 (0, 0)) → w'.heap[i]? = some (.cells cur 3 (0, 0))
theorem KeepI.refl (base : Nat) (w : World) : KeepI base w w := fun _ _ _ h => h
theorem KeepI.trans {base : Nat} {a b c : World} (h : KeepI base a b) (k : KeepI base b c) : KeepI base a c := fun i cur hi hc => k i cur hi (h i cur hi hc)
theorem KeepI.gr {base : Nat} {a b c : World} (h : KeepI base a b) (g : Gr b c) : KeepI base a c := fun i cur hi hc => by
 have := h i cur hi hc
 rw [g.block i (Ag this).1]; exact this
theorem KeepI.grow {base b2 size n : Nat} {a b c : World} {e : TypeId} {v : Value} {xs : List Value} (h : KeepI base a b) (hO : b.ownsRow b2 e size v n xs) (hne : e ≠ 3) (g : b.grownBy c v.ownBlock) : KeepI base a c := fun i cur hi hc => by
 have := h i cur hi hc
 rw [g.block i (Ag this).1 (fun e2 => own_ty hO this hne e2.symm)]; exact this
theorem KeepI.set {base : Nat} {a b : World} (h : KeepI base a b) (hP : P < base) (j : Nat) (v : Value) : KeepI base a (b.setCell ⟨P, j, none⟩ v) := fun i cur hi hc => by
 have := h i cur hi hc
 have hne : P ≠ i := by omega
 simp [World.setCell, Array.getElem?_modify, hne, this]
theorem KeepI.own {base : Nat} {a b : World} {v : Value} {n : Nat} {xs : List Value} (k : KeepI base a b) (h : a.ownsRow base 3 1 v n xs) : b.ownsRow base 3 1 v n xs := by
 obtain ⟨h1, h2⟩ := h
 refine ⟨h1, ?_⟩
 rcases h2 with h2 | ⟨g, cap, cur, e1, e2, e3, e4⟩
 ·exact .inl h2
 ·exact .inr ⟨g, cap, cur, e1, e2, k g cur e2 e3, e4⟩
theorem put5 {g base n n2 : Nat} {v' : Value} {xs ys zs : List Value} {o : Obj} {gc : Array Value} (SX : RSc X P s pv at_ tv bv tm ov en sg) (hPb : P < base) (hbX : base ≤ X.heap.size) (FX : Fr P base w X)
  (OT : X.ownsRow base 42 6 tv n xs) (OB : X.ownsRow base 4 1 bv n2 ys) (KI : KeepI base w X) (hgt : tv.ownBlock ≠ some g) (hgP : P ≠ g) (K : X.heap[g]? = some (.cells gc 42 (0, 0)))
  (h1 : w'.ownsRow base 42 6 v' (n + 1) zs) (h2 : (X.drew.alloc o).grownBy w' tv.ownBlock) :
  RSc (w'.setCell ⟨P, 3, none⟩ v') P s pv at_ v' bv tm ov en sg ∧ (w'.setCell ⟨P, 3, none⟩ v').ownsRow base 42 6 v' (n + 1) zs ∧ (w'.setCell ⟨P, 3, none⟩ v').ownsRow base 4 1 bv n2 ys ∧ KeepI base w (w'.setCell ⟨P, 3, none⟩ v') ∧ (w'.setCell ⟨P, 3, none⟩ v').heap[g]? = some (.cells gc 42 (0, 0)) ∧ Fr P base w (w'.setCell ⟨P, 3, none⟩ v') := by
 have GX : Gr X (X.drew.alloc o) := ((Gr.refl X).drew).alloc o
 have hP1 : tv.ownBlock ≠ some P := own_apart OT (.inl hPb)
 have hP2 : some P ≠ v'.ownBlock := fun e => own_apart h1 (.inl hPb) e.symm
 have S1 := (SX.gr GX).grown h2 hP1
 have ob1 := own_beside (ownsRow_gr OB GX) (ownsRow_gr OT GX) (by decide) h2
 have ob2 : some P ≠ bv.ownBlock := fun e => own_apart OB (.inl hPb) e.symm
 have kg : w'.heap[g]? = some (.cells gc 42 (0, 0)) := by
  rw [h2.block _ (Nat.lt_of_lt_of_le (Ag K).1 GX.size) (fun e => hgt e.symm), GX.block _ (Ag K).1]; exact K
 have fr := Fr.but (Fr.grow (Fr.but FX (But.of_gr GX) hbX) h2 (Nat.le_trans hbX GX.size) (fun i e => (own_ge OT e).1)) (But.set (P := P) 3 v') (Nat.le_trans hbX (Nat.le_trans GX.size h2.size))
 exact ⟨S1.setTv v', own_set h1 hP2 3 v', own_set ob1 ob2 3 v', (((KI.gr GX).grow (ownsRow_gr OT GX) (by decide) h2).set hPb 3 v'), by simp [World.setCell, Array.getElem?_modify, hgP, kg], fr⟩
theorem put6 {g base n n2 : Nat} {v' : Value} {xs ys zs : List Value} {o : Obj} {gc : Array Value} (SX : RSc X P s pv at_ tv bv tm ov en sg) (hPb : P < base) (hbX : base ≤ X.heap.size) (FX : Fr P base w X)
  (OT : X.ownsRow base 42 6 tv n xs) (OB : X.ownsRow base 4 1 bv n2 ys) (KI : KeepI base w X) (hgP : P ≠ g) (K : X.heap[g]? = some (.cells gc 42 (0, 0)))
  (h1 : w'.ownsRow base 4 1 v' (n2 + 1) zs) (h2 : (X.drew.alloc o).grownBy w' bv.ownBlock) :
  RSc (w'.setCell ⟨P, 4, none⟩ v') P s pv at_ tv v' tm ov en sg ∧ (w'.setCell ⟨P, 4, none⟩ v').ownsRow base 42 6 tv n xs ∧ (w'.setCell ⟨P, 4, none⟩ v').ownsRow base 4 1 v' (n2 + 1) zs ∧ KeepI base w (w'.setCell ⟨P, 4, none⟩ v') ∧ (w'.setCell ⟨P, 4, none⟩ v').heap[g]? = some (.cells gc 42 (0, 0)) ∧ Fr P base w (w'.setCell ⟨P, 4, none⟩ v') := by
 have GX : Gr X (X.drew.alloc o) := ((Gr.refl X).drew).alloc o
 have hP1 : bv.ownBlock ≠ some P := own_apart OB (.inl hPb)
 have hP2 : some P ≠ v'.ownBlock := fun e => own_apart h1 (.inl hPb) e.symm
 have S1 := (SX.gr GX).grown h2 hP1
 have ot1 := own_beside (ownsRow_gr OT GX) (ownsRow_gr OB GX) (by decide) h2
 have ot2 : some P ≠ tv.ownBlock := fun e => own_apart OT (.inl hPb) e.symm
 have hgt : bv.ownBlock ≠ some g := own_ty OB K (by decide)
 have kg : w'.heap[g]? = some (.cells gc 42 (0, 0)) := by
  rw [h2.block _ (Nat.lt_of_lt_of_le (Ag K).1 GX.size) (fun e => hgt e.symm), GX.block _ (Ag K).1]; exact K
 have fr := Fr.but (Fr.grow (Fr.but FX (But.of_gr GX) hbX) h2 (Nat.le_trans hbX GX.size) (fun i e => (own_ge OB e).1)) (But.set (P := P) 4 v') (Nat.le_trans hbX (Nat.le_trans GX.size h2.size))
 exact ⟨S1.setBv v', own_set ot1 ot2 4 v', own_set h1 hP2 4 v', (((KI.gr GX).grow (ownsRow_gr OB GX) (by decide) h2).set hPb 4 v'), by simp [World.setCell, Array.getElem?_modify, hgP, kg], fr⟩
theorem put7 {base j n n2 : Nat} {u : Value} {xs ys : List Value} (SX : RSc X P s pv at_ tv bv tm ov en sg) (hPb : P < base) (hbX : base ≤ X.heap.size) (FX : Fr P base w X)
  (OT : X.ownsRow base 42 6 tv n xs) (OB : X.ownsRow base 4 1 bv n2 ys) (KI : KeepI base w X) (GX : Gr X w') :
  RSc w' P s pv at_ tv bv tm ov en sg ∧ (w'.setCell ⟨P, j, none⟩ u).ownsRow base 42 6 tv n xs ∧ (w'.setCell ⟨P, j, none⟩ u).ownsRow base 4 1 bv n2 ys ∧ KeepI base w (w'.setCell ⟨P, j, none⟩ u) ∧ Fr P base w (w'.setCell ⟨P, j, none⟩ u) := by
 have hP1 : some P ≠ tv.ownBlock := fun e => own_apart OT (.inl hPb) e.symm
 have hP2 : some P ≠ bv.ownBlock := fun e => own_apart OB (.inl hPb) e.symm
 have fr := Fr.but (Fr.but FX (But.of_gr GX) hbX) (But.set (P := P) j u) (Nat.le_trans hbX GX.size)
 exact ⟨SX.gr GX, own_set (ownsRow_gr OT GX) hP1 j _, own_set (ownsRow_gr OB GX) hP2 j _, ((KI.gr GX).set hPb j u), fr⟩
end Go.Proofs.YthmopindibdhnaaGreatDoor.G
namespace Go.Proofs.YthmopindibdhnaaGreatDoor.G
open Go.RowKit Go.Shelf Go.Maps
variable {w w' : World}
theorem cell_lt {g j : Nat} {v : Value} (h : w.cell? ⟨g, j, none⟩ = some v) : g < w.heap.size := by
 unfold World.cell? at h
 simp only at h
 cases e : w.heap[g]? with
 | none => rw [e] at h; exact nomatch h
 | some o => exact (Ag e).1
theorem cell_keep {g j : Nat} {v : Value} (k : Gr w w') (h : w.cell? ⟨g, j, none⟩ = some v) : w'.cell? ⟨g, j, none⟩ = some v := by
 rw [cell_gr k (cell_lt h)]; exact h
theorem white_gr {g : Nat} (h : Lib.WhiteTab g w) (k : Gr w w') : Lib.WhiteTab g w' := by
 obtain ⟨T, oT, R, oR, h1, h2, h3, h4, h5⟩ := h
 exact ⟨T, oT, R, oR, cell_keep k h1, cell_keep k h2, cell_keep k h3, cell_keep k h4, fun i hi => cell_keep k (h5 i hi)⟩
theorem tab_gr {n : String} {k : IntKind} {zs : List Int} (h : Lib.TabIs Tryz.prog w n k zs) (g : Gr w w') {b : Nat} (hn : Tryz.prog.globalNamed n = some b) : Lib.TabIs Tryz.prog w' n k zs := by
 unfold Lib.TabIs at *
 refine var?_below (B := w.heap.size) g hn ?_ h
 unfold World.var? at h
 rw [hn] at h
 simp only [Option.bind_some] at h
 cases e : w.heap[b]? with
 | none => rw [e] at h; exact nomatch h
 | some o => exact (Ag e).1
theorem fields_at (htab : Lib.TabIs Tryz.prog w "strings.asciiSpace" .u8 Lib.asciiSpaceTab) (hW : Lib.WhiteTab 2 w) : ∀ W, Gr w W → FieldsAt W := by
 intro W k l hl
 have hsz : (⟨l.toArray⟩ : ByteArray).size = l.length := by rw [← sizeL]
 refine (Any.strings_Fields_any Tryz.lays157 (by kernel_rfl) (by kernel_rfl) (by kernel_rfl) ⟨l.toArray⟩ W (by rw [hsz]; omega) (tab_gr htab k (b := 1) (by kernel_rfl)) (white_gr hW k)).mono ?_
 rintro e w2 ⟨A, rfl, hA, hO, hB⟩
 refine ⟨A, by rw [List.length_map], ?_, ?_, hB⟩
 ·obtain ⟨_, _, cur, h3⟩ := own_ge hO (i := A) rfl
  exact (Ag h3).1
 ·intro j x hx
  have hj : j < (Lib.fieldsD l).length := by
   have := (List.getElem?_eq_some_iff.1 hx).1
   simpa using this
  obtain ⟨g, cap, h1, h2, h3, h4, h5⟩ := own_cell hO (fun e => by rw [e] at hj; exact absurd hj (Nat.not_lt_zero _))
  injection h1 with h1
  injection h1 with h1
  injection h1 with h1
  subst h1
  refine h5 j _ ?_
  show ((Lib.fieldsD l).map fun x => Value.string ⟨x.toArray⟩)[j]? = some (.string x)
  rw [List.getElem?_map] at hx ⊢
  cases hf : (Lib.fieldsD l)[j]? with
  | none => rw [hf] at hx; exact nomatch hx
  | some y => rw [hf] at hx; injection hx with hx; rw [← hx]; rfl
end Go.Proofs.YthmopindibdhnaaGreatDoor.G
namespace Go.Proofs.YthmopindibdhnaaGreatDoor.G
open Go.RowKit Go.Shelf Go.Maps
variable {w w' X : World} {P : Nat} {s : ByteArray} {pv : Value} {at_ : Nat} {tv bv : Value} {tm : Bool} {ov : Value} {en : Nat} {sg : Bool} {toks : List Tok} {terms : List Bool} {ops : List Nat} {S : Src}
theorem sig_any (tx : ByteArray) : (([⟨#[36]⟩, ⟨#[64]⟩, ⟨#[37]⟩, ⟨#[38]⟩] : List ByteArray).any fun x => x.toList == tx.toList) = ([[36], [64], [37], [38]] : List (List UInt8)).contains tx.data.toList := by
 simp only [List.any_cons, List.any_nil, List.contains_cons, List.contains_nil, ByteArray.toList_eq]
 congr 1
 ·rw [BEq.comm]
 congr 1
 ·rw [BEq.comm]
 congr 1
 ·rw [BEq.comm]
 congr 1
 rw [BEq.comm]
set_option maxRecDepth 100000 in
set_option maxHeartbeats 4000000 in
theorem put_r {base : Nat} {k p0 o : Int} {tx rp mo : ByteArray} (h : RSc w P s pv at_ tv bv tm ov en sg) (OT : OwnT w base tv toks) (OB : OwnB w base bv terms) (OP : OwnP w base pv S) (hPb : P < base) (hbw : base ≤ w.heap.size) (hat : at_ < S.length) (_ : S.length ≤ 4000)
  (hn : toks.length ≤ 4000 ∧ terms.length ≤ 4000) (b : Nat) :
  Calls Tryz.prog 55 #[.pointer (some ⟨P, 0, none⟩), .agg #[.int .i64 k, .int .i64 p0, .string tx, .string rp, .string mo, .int .i64 o], .int .i64 b] w fun e w' => e = .returned (.tuple #[]) ∧ ∃ tv' bv', RSc w' P s pv b tv' bv' (expB k tx.data.toList o tm) ov b (tm && k == 3 && ([[36], [64], [37], [38]] : List (List UInt8)).contains tx.data.toList) ∧ OwnT w' base tv' (toks ++ [⟨k, S[at_].1, tx, rp, mo, o⟩]) ∧ OwnB w' base bv' (terms ++ [tm]) ∧ KeepI base w w' ∧ Fr P base w w' := by
 obtain ⟨gp, capp, rfl, hgp, hgps, hcapp, hpc⟩ := own_cell OP (by omega)
 obtain ⟨pl, hpl⟩ : ∃ pl, pl = S[at_].1 := ⟨_, rfl⟩
 have pc0 : w.cell? ⟨gp, at_, none⟩ = some (.int .i64 (pl : Int)) := hpc _ _ (by rw [List.getElem?_map, List.getElem?_eq_getElem hat, hpl]; rfl)
 rw [← hpl]
 have H := Lh h
 have hP := h.lt
 have G1 : Gr w (w.alloc (.cells #[.int .i64 k, .int .i64 p0, .string tx, .string rp, .string mo, .int .i64 o] 42)) := (Gr.refl w).alloc _
 have pc1 := cell_keep G1 pc0
 have HG1 := Lh G1
 obtain ⟨c0, c1, c2, c3, c4, c5, c6, c7, c8, cf⟩ := (h.gr G1).cells
 have b1 : (at_ : Int) < (S.length : Int) := by omega
 have HT := Lh OT
 have HBr := Lh OB
 have HPr := Lh OP
 have K1 := Lh (heap_alloc_new w (.cells #[.int .i64 k, .int .i64 p0, .string tx, .string rp, .string mo, .int .i64 o] 42))
 obtain ⟨sg', hsg⟩ : ∃ b, b = (tm && k == 3 && ([[36], [64], [37], [38]] : List (List UInt8)).contains tx.data.toList) := ⟨_, rfl⟩
 rw [← hsg]
 have Hsg := Lh hsg
 clear h OT OB OP hpc pc0 hpl hat G1 hsg
 go_enter Tryz.func55, Tryz.ntmps55
 go_wp2_with fail
 go_big_region
 go_wp2_with fail
 have hgt : tv.ownBlock ≠ some w.heap.size := own_apart HT.out (.inr (Nat.le_refl _))
 generalize hX : (w.alloc (.cells #[.int .i64 k, .int .i64 (pl : Int), .string tx, .string rp, .string mo, .int .i64 o] 42)).drew = X
 have GX : Gr w X := by rw [← hX]; exact ((Gr.refl w).alloc _).drew
 have SX := Lh (H.out.gr GX)
 have TX := Lh (ownsRow_gr HT.out GX)
 have BX := Lh (ownsRow_gr HBr.out GX)
 have KI0 := Lh ((KeepI.refl base w).gr GX)
 have hXs : Hid (base ≤ X.heap.size) := Lh (by have := GX.size; omega)
 have FX := Lh (Fr.of_but (P := P) (But.of_gr GX) hbw)
 obtain ⟨g, hg⟩ : ∃ g, g = w.heap.size := ⟨_, rfl⟩
 have KX : Hid (X.heap[g]? = some (.cells #[.int .i64 k, .int .i64 (pl : Int), .string tx, .string rp, .string mo, .int .i64 o] 42 (0, 0))) := Lh (by rw [← hX, hg]; exact heap_alloc_new w _)
 rw [← hg] at hgt ⊢
 have hgP : P ≠ g := by omega
 clear hX GX hg c0 c1 c2 c3 c4 c5 c6 c7 c8 cf pc1 HG1 K1 HT HBr HPr H
 obtain ⟨kc, kf⟩ := cellsOf KX.out
 have t0 := kc 0
 have t1 := kc 1
 have t2 := kc 2
 have t3 := kc 3
 have t4 := kc 4
 have t5 := kc 5
 simp at t0 t1 t2 t3 t4 t5
 clear kc
 obtain ⟨c0, c1, c2, c3, c4, c5, c6, c7, c8, cf⟩ := SX.out.cells
 obtain ⟨_, _, _, b3, b4, b5, _, _, _, _⟩ := (SX.out.gr ((Gr.refl X).alloc (.cells #[.int .i64 k, .int .i64 (pl : Int), .string tx, .string rp, .string mo, .int .i64 o] 42))).cells
 obtain ⟨ti, hti, htz, hts, htb⟩ := info_parts infoTok
 obtain ⟨bi, hbi, hbz, hbs, hbb⟩ := info_parts infoBool
 go_cut [] from 17 (fun wx => ∃ tv', RSc wx P s (.slice (some ⟨gp, 0, none⟩) S.length capp) at_ tv' bv tm ov en sg ∧ wx.ownsRow base 42 6 tv' (toks.length + 1) (cellsT toks ++ #[.int .i64 k, .int .i64 (pl : Int), .string tx, .string rp, .string mo, .int .i64 o].toList) ∧ OwnB wx base bv terms ∧ KeepI base X wx ∧ wx.heap[g]? = some (.cells #[.int .i64 k, .int .i64 (pl : Int), .string tx, .string rp, .string mo, .int .i64 o] 42 (0, 0)) ∧ Fr P base X wx)
 case first =>
  go_region_law (refine step_of rfl (wp_append_own _ (.tmp 21) (.tmp 23) 28 rfl base 42 ti (.agg #[.int .i64 0, .int .i64 0, .string ⟨#[]⟩, .string ⟨#[]⟩, .string ⟨#[]⟩, .int .i64 0]) 6 72 Tryz.underlying28 hti htz hts htb rfl (by decide) _ _ _ rfl (ownsRow_gr TX.out (((Gr.refl X).drew).alloc _)) ⟨X.heap.size, 0, none⟩ 1 1 #[.int .i64 k, .int .i64 (pl : Int), .string tx, .string rp, .string mo, .int .i64 o].toList rfl rfl (fun j u hj => newCellsAt (by simp) hj) (by simp [Value.oneCell']) (by unfold maxLen; omega) (by omega) (by have := hXs.out; simp; omega) fun v' w' h1 h2 _ => ?_); obtain ⟨ao, cap, rfl⟩ := ownsRow_shape h1; have HR5 := Lh (put5 SX.out hPb hXs.out (Fr.refl P base X) TX.out BX.out (KeepI.refl base X) hgt hgP KX.out h1 h2); obtain ⟨_, _, _, d4, _, _, _, _, _, df⟩ := ((SX.out.gr (((Gr.refl X).drew).alloc _)).grown h2 (own_apart TX.out (.inl hPb))).cells; clear h1 h2)
  all_goals
   go_wp2_with fail
   go_meet
   obtain ⟨a1, a2, a3, a4, a5, a6⟩ := HR5.out
   exact ⟨_, a1, a2, a3, a4, a5, a6⟩
 case rest =>
 obtain ⟨tv', d1, d2, d3, d4, d6, d7⟩ := hcut
 have SW := Lh d1
 have TW := Lh d2
 have BW := Lh d3
 have KI := Lh d4
 have KW := Lh d6
 have FW := Lh d7
 clear d1 d2 d3 d4 d6 d7 KX SX TX BX t0 t1 t2 t3 t4 t5 kf c0 c1 c2 c3 c4 c5 c6 c7 c8 cf b3 b4 b5
 obtain ⟨c0, c1, c2, c3, c4, c5, c6, c7, c8, cf⟩ := SW.out.cells
 obtain ⟨_, _, _, b3, b4, b5, _, _, _, _⟩ := (SW.out.gr ((Gr.refl wc).alloc (.cells #[.bool tm] 4))).cells
 have hwcs : Hid (base ≤ wc.heap.size) := Lh (by have := FW.out.size; have := hXs.out; omega)
 go_wp2_with fail
 go_cut [] from 27 (fun wx => ∃ bv', RSc wx P s (.slice (some ⟨gp, 0, none⟩) S.length capp) at_ tv' bv' tm ov en sg ∧ wx.ownsRow base 42 6 tv' (toks.length + 1) (cellsT toks ++ #[.int .i64 k, .int .i64 (pl : Int), .string tx, .string rp, .string mo, .int .i64 o].toList) ∧ wx.ownsRow base 4 1 bv' (terms.length + 1) (terms.map Value.bool ++ [.bool tm]) ∧ KeepI base X wx ∧ wx.heap[g]? = some (.cells #[.int .i64 k, .int .i64 (pl : Int), .string tx, .string rp, .string mo, .int .i64 o] 42 (0, 0)) ∧ Fr P base X wx)
 case first =>
  go_region_law (refine step_of rfl (wp_append_own _ (.tmp 31) (.tmp 36) 24 rfl base 4 bi (.bool false) 1 1 Tryz.underlying24 hbi hbz hbs hbb rfl (by decide) _ _ _ rfl (ownsRow_gr BW.out (((Gr.refl wc).drew).alloc _)) ⟨wc.heap.size, 0, none⟩ 1 1 [.bool tm] rfl rfl (fun j u hj => newCellsAt (by simp) hj) (by simp [Value.oneCell']) (by unfold maxLen; omega) (by omega) (by have := hwcs.out; simp; omega) fun v' w' h1 h2 _ => ?_); obtain ⟨ao, cap, rfl⟩ := ownsRow_shape h1; have HR6 := Lh (put6 SW.out hPb hwcs.out FW.out TW.out BW.out KI.out hgP KW.out h1 h2); obtain ⟨_, _, _, _, d5, _, _, _, _, df⟩ := ((SW.out.gr (((Gr.refl wc).drew).alloc _)).grown h2 (own_apart BW.out (.inl hPb))).cells; clear h1 h2)
  all_goals
   go_wp2_with fail
   go_meet
   obtain ⟨a1, a2, a3, a4, a5, a6⟩ := HR6.out
   exact ⟨_, a1, a2, a3, a4, a5, a6⟩
 case rest =>
 obtain ⟨bv', d1, d2, d3, d4, d6, d7⟩ := hcut
 clear SW TW BW KI KW FW c0 c1 c2 c3 c4 c5 c6 c7 c8 cf b3 b4 b5 hwcs
 have SW := Lh d1
 have TW := Lh d2
 have BW := Lh d3
 have KI := Lh d4
 have KW := Lh d6
 have FW := Lh d7
 clear d1 d2 d3 d4 d6 d7
 have hwcs : Hid (base ≤ wc.heap.size) := Lh (by have := FW.out.size; have := hXs.out; omega)
 obtain ⟨c0, c1, c2, c3, c4, c5, c6, c7, c8, cf⟩ := SW.out.cells
 obtain ⟨kc, _⟩ := cellsOf KW.out
 have t0 := kc 0
 have t1 := kc 1
 have t2 := kc 2
 have t3 := kc 3
 have t4 := kc 4
 have t5 := kc 5
 simp at t0 t1 t2 t3 t4 t5
 clear kc
 go_upto_region 4 with fail
 go_cut [] from 58 (fun wx => RSc wx P s (.slice (some ⟨gp, 0, none⟩) S.length capp) at_ tv' bv' tm ov en sg' ∧ wx.ownsRow base 42 6 tv' (toks.length + 1) (cellsT toks ++ #[.int .i64 k, .int .i64 (pl : Int), .string tx, .string rp, .string mo, .int .i64 o].toList) ∧ wx.ownsRow base 4 1 bv' (terms.length + 1) (terms.map Value.bool ++ [.bool tm]) ∧ KeepI base X wx ∧ wx.heap[g]? = some (.cells #[.int .i64 k, .int .i64 (pl : Int), .string tx, .string rp, .string mo, .int .i64 o] 42 (0, 0)) ∧ Fr P base X wx)
 case first =>
  have HX8 : Hid (∀ (W : World), Gr wc W → RSc (W.setCell ⟨P, 8, none⟩ (.bool sg')) P s (.slice (some ⟨gp, 0, none⟩) S.length capp) at_ tv' bv' tm ov en sg' ∧ (W.setCell ⟨P, 8, none⟩ (.bool sg')).ownsRow base 42 6 tv' (toks.length + 1) (cellsT toks ++ #[.int .i64 k, .int .i64 (pl : Int), .string tx, .string rp, .string mo, .int .i64 o].toList) ∧ (W.setCell ⟨P, 8, none⟩ (.bool sg')).ownsRow base 4 1 bv' (terms.length + 1) (terms.map Value.bool ++ [.bool tm]) ∧ KeepI base X (W.setCell ⟨P, 8, none⟩ (.bool sg')) ∧ (W.setCell ⟨P, 8, none⟩ (.bool sg')).heap[g]? = some (.cells #[.int .i64 k, .int .i64 (pl : Int), .string tx, .string rp, .string mo, .int .i64 o] 42 (0, 0)) ∧ Fr P base X (W.setCell ⟨P, 8, none⟩ (.bool sg'))) := Lh (fun W GW => by
   obtain ⟨a1, a2, a3, a4, a6⟩ := put7 (j := 8) (u := .bool sg') SW.out hPb hwcs.out FW.out TW.out BW.out KI.out GW
   refine ⟨a1.setSg _, a2, a3, a4, ?_, a6⟩
   have := (GW.block _ (Ag KW.out).1).trans KW.out
   simp [World.setCell, Array.getElem?_modify, hgP, this])
  have HTA := Lh (texts_alloc wc [⟨#[36]⟩, ⟨#[64]⟩, ⟨#[37]⟩, ⟨#[38]⟩] 9)
  have HH := Lh (has_r wc.heap.size [⟨#[36]⟩, ⟨#[64]⟩, ⟨#[37]⟩, ⟨#[38]⟩] tx _ HTA.out (by decide))
  have HC : Hid ((([⟨#[36]⟩, ⟨#[64]⟩, ⟨#[37]⟩, ⟨#[38]⟩] : List ByteArray).any fun x => x.toList == tx.toList) = ([[36], [64], [37], [38]] : List (List UInt8)).contains tx.data.toList) := Lh (sig_any tx)
  rw [show (([⟨#[36]⟩, ⟨#[64]⟩, ⟨#[37]⟩, ⟨#[38]⟩] : List ByteArray).length) = 4 from rfl, HC.out] at HH
  change Hid (Calls _ _ #[.slice (some ⟨wc.heap.size, 0, none⟩) 4 4, .string tx] (wc.alloc (.cells #[.string ⟨#[36]⟩, .string ⟨#[64]⟩, .string ⟨#[37]⟩, .string ⟨#[38]⟩] 9)) _) at HH
  have GA : Gr wc (wc.alloc (.cells #[.string ⟨#[36]⟩, .string ⟨#[64]⟩, .string ⟨#[37]⟩, .string ⟨#[38]⟩] 9)) := (Gr.refl wc).alloc _
  have HGA := Lh GA
  have m0 := cell_keep GA t0
  have m2 := cell_keep GA t2
  obtain ⟨_, _, _, _, _, m5, _, _, m8, mf⟩ := (SW.out.gr GA).cells
  clear GA HTA HC SW TW BW KI KW FW
  rcases (show tm = false ∨ (tm = true ∧ k ≠ 3) ∨ (tm = true ∧ k = 3) by cases tm <;> by_cases hk : k = 3 <;> simp [hk]) with htm | ⟨htm, hk⟩ | ⟨htm, hk⟩
  ·subst htm
   go_wp2_with fail
   go_meet
   have hf : sg' = false := Hsg.out
   have := HX8.out _ (Gr.refl wc)
   rw [hf] at this ⊢
   exact this
  ·subst htm
   have hk1 : (k == 3) = false := by simpa using hk
   go_wp2_with fail
   go_meet
   have hf : sg' = false := by rw [Hsg.out, hk1]; rfl
   have := HX8.out _ (Gr.refl wc)
   rw [hf] at this ⊢
   exact this
  ·subst htm
   subst hk
   have hf : ([[36], [64], [37], [38]] : List (List UInt8)).contains tx.data.toList = sg' := by rw [Hsg.out]; rfl
   rw [hf] at HH
   go_wp2_with fail
   refine (HH.out).mono ?_
   rintro e9 w9 ⟨rfl, rfl⟩
   go_wp2_with fail
   go_meet
   exact HX8.out _ HGA.out
 case rest =>
 obtain ⟨d1, d2, d3, d4, d6, d7⟩ := hcut
 clear SW TW BW KI KW FW c0 c1 c2 c3 c4 c5 c6 c7 c8 cf hwcs t0 t1 t2 t3 t4 t5
 have SW := Lh d1
 have TW := Lh d2
 have BW := Lh d3
 have KI := Lh d4
 have KW := Lh d6
 have FW := Lh d7
 clear d1 d2 d3 d4 d6 d7
 have hwcs : Hid (base ≤ wc.heap.size) := Lh (by have := FW.out.size; have := hXs.out; omega)
 obtain ⟨c0, c1, c2, c3, c4, c5, c6, c7, c8, cf⟩ := SW.out.cells
 obtain ⟨kc, _⟩ := cellsOf KW.out
 have t0 := kc 0
 have t1 := kc 1
 have t2 := kc 2
 have t3 := kc 3
 have t4 := kc 4
 have t5 := kc 5
 simp at t0 t1 t2 t3 t4 t5
 clear kc
 have HE := Lh (fun w => expects_r k (pl : Int) tx rp mo o tm w)
 go_wp2_with fail
 go_cut [] from 67 (fun wx => RSc wx P s (.slice (some ⟨gp, 0, none⟩) S.length capp) at_ tv' bv' (expB k tx.data.toList o tm) ov en sg' ∧ wx.ownsRow base 42 6 tv' (toks.length + 1) (cellsT toks ++ #[.int .i64 k, .int .i64 (pl : Int), .string tx, .string rp, .string mo, .int .i64 o].toList) ∧ wx.ownsRow base 4 1 bv' (terms.length + 1) (terms.map Value.bool ++ [.bool tm]) ∧ KeepI base X wx ∧ Fr P base X wx)
 case first =>
  go_region_with (go_at_call 24; refine (HE.out _).mono ?_; rintro e9 w9 ⟨rfl, g9⟩; have G9 := Lh g9; clear g9; have S9 := Lh ((SW.out.gr ((Gr.refl _).drew)).gr G9.out); obtain ⟨_, _, _, _, _, d3, _, _, _, df⟩ := S9.out.cells)
  all_goals
   go_wp2_with fail
   go_meet
   obtain ⟨a1, a2, a3, a4, a6⟩ := put7 (j := 5) (u := .bool (expB k tx.data.toList o tm)) SW.out hPb hwcs.out FW.out TW.out BW.out KI.out (((Gr.refl _).drew).trans G9.out)
   exact ⟨a1.setTm _, a2, a3, a4, a6⟩
 case rest =>
 obtain ⟨d1, d2, d3, d4, d6⟩ := hcut
 clear SW TW BW KI KW FW c0 c1 c2 c3 c4 c5 c6 c7 c8 cf hwcs t0 t1 t2 t3 t4 t5 HE
 have SW := Lh d1
 have TW := Lh d2
 have BW := Lh d3
 have KI := Lh d4
 have FW := Lh d6
 clear d1 d2 d3 d4 d6
 have hwcs : Hid (base ≤ wc.heap.size) := Lh (by have := FW.out.size; have := hXs.out; omega)
 obtain ⟨c0, c1, c2, c3, c4, c5, c6, c7, c8, cf⟩ := SW.out.cells
 go_wp2_with fail
 go_end0
 obtain ⟨a1, a2, a3, a4, a6⟩ := put7 (j := 2) (u := .int .i64 (b : Int)) SW.out hPb hwcs.out FW.out TW.out BW.out KI.out (Gr.refl _)
 have hb2 : base ≤ (wc.setCell ⟨P, 2, none⟩ (.int .i64 (b : Int))).heap.size := by simpa [World.setCell] using hwcs.out
 obtain ⟨e1, e2, e3, e4, e6⟩ := put7 (j := 7) (u := .int .i64 (b : Int)) (a1.setAt b) hPb hb2 a6 a2 a3 a4 (Gr.refl _)
 refine ⟨rfl, tv', bv', e1.setEn b, ?_, ?_, ?_, ?_⟩
 ·have f1 : (toks ++ [(⟨k, (pl : Int), tx, rp, mo, o⟩ : Tok)]).length = toks.length + 1 := by simp
  have f2 : cellsT (toks ++ [(⟨k, (pl : Int), tx, rp, mo, o⟩ : Tok)]) = cellsT toks ++ #[.int .i64 k, .int .i64 (pl : Int), .string tx, .string rp, .string mo, .int .i64 o].toList := by rw [cellsT_app]; rfl
  show World.ownsRow _ _ _ _ _ _ _
  rw [f1, f2]
  exact e2
 ·have f1 : (terms ++ [tm]).length = terms.length + 1 := by simp
  have f2 : (terms ++ [tm]).map Value.bool = terms.map Value.bool ++ [.bool tm] := by simp
  show World.ownsRow _ _ _ _ _ _ _
  rw [f1, f2]
  exact e3
 ·exact KI0.out.trans e4
 ·exact FX.out.trans e6
end Go.Proofs.YthmopindibdhnaaGreatDoor.G
namespace Go.Proofs.YthmopindibdhnaaGreatDoor.G
open Go.RowKit Go.Shelf Go.Maps
variable {w w' : World} {base : Nat} {v : Value}
def OwnO (w : World) (base : Nat) (v : Value) (l : List Nat) : Prop :=
 OwnI w base v l ∨ ∃ g cur, v = .slice (some ⟨g, 0, none⟩) l.length l.length ∧ base ≤ g ∧ w.heap[g]? = some (.cells cur 3 (0, 0)) ∧ ∀ (j : Nat) x, l[j]? = some x → cur[j]? = some (.int .i64 (x : Int))
theorem OwnO.keep {l : List Nat} (h : OwnO w base v l) (k : KeepI base w w') : OwnO w' base v l := by
 rcases h with h | ⟨g, cur, h1, h2, h3, h4⟩
 ·exact .inl (k.own h)
 ·exact .inr ⟨g, cur, h1, h2, k g cur h2 h3, h4⟩
theorem OwnO.gr {l : List Nat} (h : OwnO w base v l) (g : Gr w w') : OwnO w' base v l := h.keep ((KeepI.refl base w).gr g)
theorem OwnO.shape {l : List Nat} (h : OwnO w base v l) : ∃ ao cap, v = .slice ao l.length cap := by
 rcases h with h | ⟨g, cur, h1, _⟩
 ·exact ownsRow_shape h
 ·exact ⟨_, _, h1⟩
theorem OwnO.ge {l : List Nat} (h : OwnO w base v l) {i : Nat} (hi : v.ownBlock = some i) : base ≤ i ∧ ∃ cur, w.heap[i]? = some (.cells cur 3 (0, 0)) := by
 rcases h with h | ⟨g, cur, rfl, h2, h3, _⟩
 ·obtain ⟨a, _, b⟩ := own_ge h hi; exact ⟨a, b⟩
 ·injection hi with hi
  subst hi
  exact ⟨h2, cur, h3⟩
theorem OwnO.last {l : List Nat} {x : Nat} (h : OwnO w base v (l ++ [x])) : ∃ g cap, v = .slice (some ⟨g, 0, none⟩) (l.length + 1) cap ∧ l.length + 1 ≤ cap ∧ w.cell? ⟨g, l.length, none⟩ = some (.int .i64 (x : Int)) ∧ OwnO w base (.slice (some ⟨g, 0, none⟩) l.length l.length) l := by
 rcases h with h | ⟨g, cur, h1, h2, h3, h4⟩
 ·obtain ⟨a1, a2⟩ := h
  rcases a2 with ⟨_, a2⟩ | ⟨g, cap, cur, e1, e2, e3, e4, e5, e6, e7⟩
  ·simp at a2
  ·have hc : ∀ (j : Nat) y, (l ++ [x])[j]? = some y → cur[j]? = some (.int .i64 (y : Int)) := fun j y hj => by
    have hjl := (List.getElem?_eq_some_iff.1 hj).1
    have e8 := congrArg (fun z => z[j]?) e7
    simp only [List.getElem?_take, List.getElem?_map, hj] at e8
    rw [if_pos (by simpa using hjl)] at e8
    simpa using e8
   refine ⟨g, cap, by rw [e1]; simp, by simpa using e4, ?_, .inr ⟨g, cur, rfl, e2, e3, fun j y hj => hc j y (by rw [List.getElem?_append_left (List.getElem?_eq_some_iff.1 hj).1]; exact hj)⟩⟩
   rw [cell_of_row w g l.length cur _ (0, 0) e3]
   exact hc _ _ (by simp)
 ·refine ⟨g, l.length + 1, by rw [h1]; simp, Nat.le_refl _, ?_, .inr ⟨g, cur, rfl, h2, h3, fun j y hj => h4 j y (by rw [List.getElem?_append_left (List.getElem?_eq_some_iff.1 hj).1]; exact hj)⟩⟩
  rw [cell_of_row w g l.length cur _ (0, 0) h3]
  exact h4 _ _ (by simp)
theorem wp_append_at {P : Program} {w : World} {o : Oper} {a : Act} {K : Act → World → Prop} {Q : Exit → Act → World → Prop} (s x : Operand) (t : TypeId)
  (ho : o.op = .call { callee := .builtin .append, args := #[s, x], argTypes := #[t, t] })
  (base : Nat) (e : TypeId) (i : TypeInfo) (z : Value) (size bytes : Nat) (ht : P.underlying t = some (.slice e)) (hi : P.info? e = some i) (hz : i.zero = some z)
  (hsize : i.size = size) (hby : i.bytes = bytes) (hzs : z.cells.size = size) (hsz : 0 < size)
  (v : Value) (n : Nat) (xs : List Value) (hs : a.eval s = v) (hown : w.ownsRow base e size v n xs)
  (ad : Addr) (m c : Nat) (news : List Value) (hx : a.eval x = .slice (some ad) m c) (hl : news.length = m * size) (hnews : ∀ j u, news[j]? = some u → w.cell? (ad.add j) = some u) (h1 : ∀ u ∈ news, u.oneCell' = true)
  (h63 : n + m ≤ maxLen) (hbytes : (n + m) * bytes ≤ 140737488355328) (hbase : base ≤ w.heap.size)
  (h : ∀ v' w', w'.ownsRow base e size v' (n + m) (xs ++ news) → w.grownBy w' v.ownBlock → (v'.ownBlock = v.ownBlock ∨ v'.ownBlock = some w.heap.size) → K (a.put o.dst v') w') : o.wp P a w K Q := by
 obtain ⟨v', w', hr, h2, h3, _, h5⟩ := run_append_own_at (P := P) w base t o.type e i z size bytes ht hi hz hsize hby hzs hsz v n xs hown ad m c news hl hnews h1 h63 hbytes hbase
 unfold Oper.wp execOp
 simp only [ho, resolve, invoke, builtin, Sem.run_bind, Sem.run_pure, Result.andThen_ok, List.map_toArray, List.map_cons, List.map_nil, hs, hx, hr]
 exact h v' w' h2 h3 h5
theorem wp_append_open {w : World} {o : Oper} {a : Act} {K : Act → World → Prop} {Q : Exit → Act → World → Prop} (s x : Operand)
  (ho : o.op = .call { callee := .builtin .append, args := #[s, x], argTypes := #[48, 48] })
  (base : Nat) (v : Value) (l : List Nat) (hs : a.eval s = v) (hO : OwnO w base v l) (hl : l.length ≤ 100000) (y : Nat)
  (ad : Addr) (c : Nat) (hx : a.eval x = .slice (some ad) 1 c) (hnews : w.cell? (ad.add 0) = some (.int .i64 (y : Int))) (hbase : base ≤ w.heap.size)
  (h : ∀ v' w', OwnI w' base v' (l ++ [y]) → w.grownBy w' v.ownBlock → (v'.ownBlock = v.ownBlock ∨ v'.ownBlock = some w.heap.size) → K (a.put o.dst v') w') : o.wp Tryz.prog a w K Q := by
 obtain ⟨i, hi, hz0, hz1, hz2⟩ := info_parts infoInt
 have hn : ∀ j u, ([Value.int .i64 (y : Int)] : List Value)[j]? = some u → w.cell? (ad.add j) = some u := fun j u hj => by
  match j, hj with
  | 0, hj => simp at hj; subst hj; exact hnews
 have e2 : (l ++ [y]).map (fun (x : Nat) => Value.int .i64 (x : Int)) = l.map (fun (x : Nat) => Value.int .i64 (x : Int)) ++ [.int .i64 (y : Int)] := by simp
 have e1 : (l ++ [y]).length = l.length + 1 := by simp
 rcases hO with hO | ⟨g, cur, rfl, h2, h3, h4⟩
 ·refine wp_append_at s x 48 ho base 3 i (.int .i64 0) 1 8 Tryz.underlying48 hi hz0 hz1 hz2 rfl (by decide) v _ _ hs hO ad 1 c [.int .i64 (y : Int)] hx rfl hn (by intro u hu; simp at hu; subst hu; rfl) (by unfold maxLen; omega) (by omega) hbase fun v' w' k1 k2 k3 => h v' w' ?_ k2 k3
  show World.ownsRow _ _ _ _ _ _ _
  rw [e1, e2]; exact k1
 ·have hold : ∀ (j : Nat) u, (l.map fun (x : Nat) => Value.int .i64 (x : Int))[j]? = some u → w.cell? ((⟨g, 0, none⟩ : Addr).add j) = some u := fun j u hj => by
   rw [List.getElem?_map] at hj
   cases hq : l[j]? with
   | none => rw [hq] at hj; cases hj
   | some q =>
    rw [hq] at hj
    cases hj
    have hadd : (⟨g, 0, none⟩ : Addr).add j = ⟨g, j, none⟩ := by unfold Addr.add; split <;> simp_all
    rw [hadd, cell_of_row w g j cur _ (0, 0) h3]
    exact h4 j q hq
  have hr := run_append_grow (P := Tryz.prog) w 48 o.type 3 i (.int .i64 0) Tryz.underlying48 hi hz0 ⟨g, 0, none⟩ l.length l.length _ (by rw [hz1]; simp) hold ad 1 c [.int .i64 (y : Int)] (by rw [hz1]; rfl) hn (by omega) (by omega) (by rw [hz2]; exact growslice_fits (by omega) (by omega))
  have hge := grownCap_ge w (l.length + 1) l.length 3
  have hcm : grownCap w (l.length + 1) l.length 3 ≤ maxLen := grownCap_le_maxLen w (l.length + 1) l.length 3 (by unfold maxLen; omega)
  unfold Oper.wp execOp
  simp only [ho, resolve, invoke, builtin, Sem.run_bind, Sem.run_pure, Result.andThen_ok, List.map_toArray, List.map_cons, List.map_nil, hs, hx, hr]
  refine h _ _ ?_ ⟨rfl, rfl, rfl, by simp, fun k hk _ => (((Gr.refl w).drew).alloc _).block k hk⟩ (.inr rfl)
  refine ⟨by simp, .inr ⟨w.heap.size, _, _, by rw [e1], hbase, heap_alloc_new w.drew _, by rw [e1]; exact hge, hcm, ?_, ?_⟩⟩
  ·simp only [Array.size_append, List.size_toArray, size_zeroCells, List.length_map, List.length_cons, List.length_nil]
   rw [show (Value.int IntKind.i64 0).cells.size = 1 from rfl]
   omega
  ·rw [e2]
   simp only [Array.toList_append, List.append_assoc]
   have : ((l ++ [y]).length * 1) = (l.map (fun (x : Nat) => Value.int .i64 (x : Int)) ++ [Value.int .i64 (y : Int)]).length := by simp
   rw [this, ← List.append_assoc]
   exact List.take_left
end Go.Proofs.YthmopindibdhnaaGreatDoor.G
