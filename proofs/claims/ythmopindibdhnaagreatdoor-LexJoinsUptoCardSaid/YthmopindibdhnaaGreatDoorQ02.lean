import Derived.Test.YthmopindibdhnaaGreatDoorQ00
import Derived.Test.YthmopindibdhnaaGreatDoorQ01
import Derived.Maps.Own
import Derived.Maps.OwnOps
import Derived.Laws.Tables
import Derived.Laws.ResultCell
namespace Go.Proofs.YthmopindibdhnaaGreatDoor
open Go.RowKit Go.Shelf
def sepAt (l : List UInt8) (n : Nat) : Bool := Lib.hasPrefix (l.drop n) [58, 58] && (match l[n + 2]? with | some e => alphaB e.toNat | none => false)
def wordR (l : List UInt8) : Nat → Nat → Nat
 | 0, n => n
 | f + 1, n => match l[n]? with
  | none => n
  | some c => if (alphaB c.toNat || digB c.toNat) = true then wordR l f (n + 1) else if sepAt l n = true then wordR l f (n + 3) else n
def wordN (l : List UInt8) : Nat := match l[0]? with
 | none => 0
 | some c => if alphaB c.toNat = true then wordR l l.length 1 else 0
variable {l : List UInt8} {f n : Nat}
theorem wordR_end (h : l.length ≤ n) : wordR l f n = n := by
 cases f with
 | zero => rfl
 | succ f => rw [wordR, List.getElem?_eq_none h]
theorem wordR_on (h : n < l.length) (hf : l.length ≤ n + f) (hc : (alphaB l[n].toNat || digB l[n].toNat) = true) : ∃ f', l.length ≤ n + 1 + f' ∧ wordR l f n = wordR l f' (n + 1) := by
 cases f with
 | zero => omega
 | succ f => exact ⟨f, by omega, by rw [wordR, List.getElem?_eq_getElem h]; simp only; rw [if_pos hc]⟩
theorem sep_len (h : sepAt l n = true) : n + 2 < l.length := by
 unfold sepAt at h
 by_cases h2 : n + 2 < l.length
 ·exact h2
 ·rw [List.getElem?_eq_none (by omega)] at h; simp at h
theorem wordR_sep (h : n < l.length) (hf : l.length ≤ n + f) (hc : (alphaB l[n].toNat || digB l[n].toNat) = false) (hs : sepAt l n = true) : ∃ f', l.length ≤ n + 3 + f' ∧ wordR l f n = wordR l f' (n + 3) := by
 have := sep_len hs
 cases f with
 | zero => omega
 | succ f => exact ⟨f, by omega, by rw [wordR, List.getElem?_eq_getElem h]; simp only; rw [if_neg (by rw [hc]; decide), if_pos hs]⟩
theorem wordR_stop (h : n < l.length) (hc : (alphaB l[n].toNat || digB l[n].toNat) = false) (hs : sepAt l n = false) : wordR l f n = n := by
 cases f with
 | zero => rfl
 | succ f => rw [wordR, List.getElem?_eq_getElem h]; simp only; rw [if_neg (by rw [hc]; decide), if_neg (by rw [hs]; decide)]
theorem wordR_le : ∀ (f n : Nat), n ≤ l.length → wordR l f n ≤ l.length ∧ n ≤ wordR l f n
 | 0, n, h => ⟨h, Nat.le_refl _⟩
 | f + 1, n, h => by
  rw [wordR]
  by_cases h1 : n < l.length
  ·rw [List.getElem?_eq_getElem h1]
   simp only
   split
   ·have := wordR_le f (n + 1) (by omega); omega
   ·split
    ·rename_i hs
     have h3 := sep_len hs
     have := wordR_le f (n + 3) (by omega); omega
    ·exact ⟨h, Nat.le_refl _⟩
  ·rw [List.getElem?_eq_none (by omega)]; exact ⟨h, Nat.le_refl _⟩
theorem wordN_le (l : List UInt8) : wordN l ≤ l.length := by
 unfold wordN
 by_cases h : 0 < l.length
 ·rw [List.getElem?_eq_getElem h]
  simp only
  split
  ·exact (wordR_le _ _ h).1
  ·omega
 ·rw [List.getElem?_eq_none (by omega)]; exact Nat.zero_le _
def leftTo (m : Nat) : Value → Nat
 | .int _ c => (m - c).toNat
 | _ => 0
theorem wordN_no (h : 0 < l.length) (ha : alphaB l[0].toNat = false) : wordN l = 0 := by
 unfold wordN; rw [List.getElem?_eq_getElem h]; simp only; rw [if_neg (by rw [ha]; decide)]
theorem wordN_yes (h : 0 < l.length) (ha : alphaB l[0].toNat = true) : wordN l = wordR l l.length 1 := by
 unfold wordN; rw [List.getElem?_eq_getElem h]; simp only; rw [if_pos ha]
theorem byteE (s : ByteArray) (n : Nat) (_h : n < s.size) (_h' : n < s.data.toList.length) : s[n] = s.data.toList[n] := by
 rw [Array.getElem_toList]; rfl
set_option maxRecDepth 100000 in
set_option maxHeartbeats 1000000 in
theorem word_p (s : ByteArray) (hs : s.size ≤ 140737488351232) (w : World) : Calls Tryz.prog 119 #[.string s] w fun e w' => e = .returned (.int .i64 (wordN s.data.toList)) ∧ w = w' := by
 have HA := Lh alpha_p
 have HD := Lh dig_p
 have HP := Lh (fun s w => prefix_any s ⟨#[58, 58]⟩ w)
 obtain ⟨l, hl⟩ : ∃ l, l = s.data.toList := ⟨_, rfl⟩
 have hsz : s.size = l.length := by rw [hl, ← sizeL]
 by_cases h0 : l = []
 ·have hse : s = ⟨#[]⟩ := by
   rw [h0] at hl
   have h3 : s.data = #[] := by
    have := congrArg List.toArray hl
    simpa using this.symm
   cases s with | mk d => simp only at h3; rw [h3]
  subst hse
  go_enter Tryz.func119, Tryz.ntmps119
  go_wp2
  go_ret
  exact ⟨rfl, rfl⟩
 ·have h1 : 0 < l.length := List.length_pos_iff.2 h0
  have hne : (s.toList == []) = false := by
   rw [ByteArray.toList_eq, ← hl]; simpa using h0
  have hb : ∀ n (h : n < s.size) (h' : n < l.length), s[n] = l[n] := fun n h h' => by subst hl; exact byteE s n h h'
  have HB := Lh hb
  by_cases ha : alphaB l[0].toNat = true
  ·have HR : Hid (∃ f, l.length ≤ 1 + f ∧ wordN l = wordR l f 1) := Lh ⟨_, by omega, wordN_yes h1 ha⟩
   have hsz1 : 0 < s.size := by omega
   have e0 := hb 0 hsz1 h1
   rw [← hl]
   have hA0 := Lh (fun w => HA.out l[0].toNat w)
   rw [ha] at hA0
   generalize wordN l = R at *
   have Hl := Lh hl
   have Hsz := Lh hsz
   clear hl hsz hb
   go_enter Tryz.func119, Tryz.ntmps119
   go_wp2_with fail
   refine (hA0.out _).mono ?_
   rintro e w1 ⟨rfl, rfl⟩
   clear hsz1 e0 ha h0 hne hA0
   go_wp2_with fail
   go_loopw [3] (fun sc wr => ∃ n f : Nat, sc = .int .i64 (n : Int) ∧ n ≤ l.length ∧ l.length ≤ n + f ∧ w = wr ∧ Hid (R = wordR l f n)) (fun sc _ => leftTo l.length sc)
   case atStart => obtain ⟨f, h2, h3⟩ := HR.out; exact ⟨1, f, rfl, by omega, h2, rfl, Lh h3⟩
   case round =>
    obtain ⟨n, f, rfl, hn, hf, rfl, hR⟩ := hrel
    clear HR
    have b0 : (n : Int) + 3 ≤ 9223372036854775807 := by have := Hsz.out; omega
    have c0 : -9223372036854775808 ≤ (n : Int) + 3 := by omega
    have c1 : -9223372036854775808 ≤ (n : Int) + 1 := by omega
    have c2 : -9223372036854775808 ≤ (n : Int) + 2 := by omega
    have b1 : (n : Int) + 1 ≤ 9223372036854775807 := by omega
    have b2 : (n : Int) + 2 ≤ 9223372036854775807 := by omega
    by_cases hc : n < l.length
    ·have hsn : n < s.size := by rw [Hsz.out]; exact hc
     have hc' : (n : Int) < (s.size : Int) := by omega
     have en := HB.out n hsn hc
     have hpx := Lh (fun w => HP.out (s.extract n s.size) w)
     rw [dropE, ← Hl.out] at hpx
     have hA := Lh (fun w => HA.out l[n].toNat w)
     have hD := Lh (fun w => HD.out l[n].toNat w)
     by_cases ha : (alphaB l[n].toNat || digB l[n].toNat) = true
     ·have HE : Hid (∃ f', l.length ≤ n + 1 + f' ∧ R = wordR l f' (n + 1)) := Lh (by rw [hR.out]; exact wordR_on hc hf ha)
      generalize alphaB l[n].toNat = a at *
      generalize digB l[n].toNat = d at *
      clear hR HA HD HP HB hpx
      cases a
      ·obtain rfl : d = true := by simpa using ha
       clear ha
       go_wp2_with fail
       refine (hA.out _).mono ?_
       rintro e w1 ⟨rfl, rfl⟩
       go_wp2_with fail
       refine (hD.out _).mono ?_
       rintro e w1 ⟨rfl, rfl⟩
       go_wp2
       go_roundw
       case rel => obtain ⟨f', h5, h6⟩ := HE.out; exact ⟨n + 1, f', rfl, by omega, h5, trivial, Lh h6⟩
       case measure => simp only [leftTo]; omega
      ·clear ha
       go_wp2_with fail
       refine (hA.out _).mono ?_
       rintro e w1 ⟨rfl, rfl⟩
       go_wp2
       go_roundw
       case rel => obtain ⟨f', h5, h6⟩ := HE.out; exact ⟨n + 1, f', rfl, by omega, h5, trivial, Lh h6⟩
       case measure => simp only [leftTo]; omega
     ·have ha' : (alphaB l[n].toNat || digB l[n].toNat) = false := by simpa using ha
      have ha1 : alphaB l[n].toNat = false := by revert ha'; cases alphaB l[n].toNat <;> simp
      have ha2 : digB l[n].toNat = false := by revert ha'; cases alphaB l[n].toNat <;> simp
      rw [ha1] at hA
      rw [ha2] at hD
      by_cases hs : sepAt l n = true
      ·have hsl := sep_len hs
       have HE : Hid (∃ f', l.length ≤ n + 3 + f' ∧ R = wordR l f' (n + 3)) := Lh (by rw [hR.out]; exact wordR_sep hc hf ha' hs)
       have hs2 := hs
       unfold sepAt at hs2
       rw [List.getElem?_eq_getElem hsl] at hs2
       simp only [Bool.and_eq_true] at hs2
       obtain ⟨g1, g2⟩ := hs2
       have hsn2 : n + 2 < s.size := by rw [Hsz.out]; exact hsl
       have en2 := HB.out (n + 2) hsn2 hsl
       obtain ⟨m, hm⟩ : ∃ m, m = n + 2 := ⟨_, rfl⟩
       have hm' : (n : Int) + 2 = (m : Int) := by omega
       have hsm : m < s.size := by omega
       have hcm : (m : Int) < (s.size : Int) := by omega
       have bm : (m : Int) ≤ 9223372036854775807 := by omega
       have enm : s[m] = l[n + 2] := by subst hm; exact en2
       have hA2 := Lh (fun w => HA.out l[n + 2].toNat w)
       rw [g1] at hpx
       rw [g2] at hA2
       have Hn2 := Lh hsl
       clear hR HA HD HP HB ha ha' hs g1 g2 ha1 ha2
       clear en2
       generalize l[n + 2] = x2 at *
       generalize l[n] = x0 at *
       clear hsl hc hsn2 hm b2 c2
       go_wp2_with fail
       refine (hA.out _).mono ?_
       rintro e w1 ⟨rfl, rfl⟩
       go_wp2_with fail
       refine (hD.out _).mono ?_
       rintro e w1 ⟨rfl, rfl⟩
       go_wp2_with fail
       refine (hpx.out _).mono ?_
       rintro e w1 ⟨rfl, rfl⟩
       go_wp2_with fail
       refine (hA2.out _).mono ?_
       rintro e w1 ⟨rfl, rfl⟩
       go_wp2
       go_roundw
       case rel => obtain ⟨f', h5, h6⟩ := HE.out; have := Hn2.out; exact ⟨n + 3, f', rfl, by omega, h5, trivial, Lh h6⟩
       case measure => have := Hn2.out; simp only [leftTo]; omega
      ·have hs' : sepAt l n = false := by simpa using hs
       have E : Hid (R = n) := Lh (by rw [hR.out, wordR_stop hc ha' hs'])
       unfold sepAt at hs'
       by_cases g1 : Lib.hasPrefix (l.drop n) [58, 58] = true
       ·rw [g1] at hpx hs'
        by_cases hsl : n + 2 < l.length
        ·rw [List.getElem?_eq_getElem hsl] at hs'
         simp only [Bool.true_and] at hs'
         have hsn2 : n + 2 < s.size := by rw [Hsz.out]; exact hsl
         have en2 := HB.out (n + 2) hsn2 hsl
         obtain ⟨m, hm⟩ : ∃ m, m = n + 2 := ⟨_, rfl⟩
         have hm' : (n : Int) + 2 = (m : Int) := by omega
         have hsm : m < s.size := by omega
         have hcm : (m : Int) < (s.size : Int) := by omega
         have bm : (m : Int) ≤ 9223372036854775807 := by omega
         have enm : s[m] = l[n + 2] := by subst hm; exact en2
         have hA2 := Lh (fun w => HA.out l[n + 2].toNat w)
         rw [hs'] at hA2
         clear hR HA HD HP HB ha ha' hs g1 ha1 ha2 hs'
         clear en2
         generalize l[n + 2] = x2 at *
         generalize l[n] = x0 at *
         clear hsl hc hsn2 hm b2 c2
         go_wp2_with fail
         refine (hA.out _).mono ?_
         rintro e w1 ⟨rfl, rfl⟩
         go_wp2_with fail
         refine (hD.out _).mono ?_
         rintro e w1 ⟨rfl, rfl⟩
         go_wp2_with fail
         refine (hpx.out _).mono ?_
         rintro e w1 ⟨rfl, rfl⟩
         go_wp2_with fail
         refine (hA2.out _).mono ?_
         rintro e w1 ⟨rfl, rfl⟩
         go_wp2
         go_ret
         exact ⟨by rw [E.out]; rfl, rfl⟩
        ·have hc2 : decide ((n : Int) + 2 < (s.size : Int)) = false := by rw [Hsz.out]; simp; omega
         clear hR HA HD HP HB ha ha' hs g1 ha1 ha2 hs' hsl
         go_wp2_with fail
         refine (hA.out _).mono ?_
         rintro e w1 ⟨rfl, rfl⟩
         go_wp2_with fail
         refine (hD.out _).mono ?_
         rintro e w1 ⟨rfl, rfl⟩
         go_wp2_with fail
         refine (hpx.out _).mono ?_
         rintro e w1 ⟨rfl, rfl⟩
         go_wp2
         go_ret
         exact ⟨by rw [E.out]; rfl, rfl⟩
       ·rw [show Lib.hasPrefix (l.drop n) [58, 58] = false by simpa using g1] at hpx
        clear hR HA HD HP HB ha ha' hs g1 ha1 ha2 hs'
        go_wp2_with fail
        refine (hA.out _).mono ?_
        rintro e w1 ⟨rfl, rfl⟩
        go_wp2_with fail
        refine (hD.out _).mono ?_
        rintro e w1 ⟨rfl, rfl⟩
        go_wp2_with fail
        refine (hpx.out _).mono ?_
        rintro e w1 ⟨rfl, rfl⟩
        go_wp2
        go_ret
        exact ⟨by rw [E.out]; rfl, rfl⟩
    ·have hc' : ¬ (n : Int) < (s.size : Int) := by rw [Hsz.out]; omega
     have E : Hid (R = n) := Lh (by rw [hR.out, wordR_end (by omega)])
     clear hR HA HD HP HB
     go_wp2
     go_ret
     exact ⟨by rw [E.out]; rfl, rfl⟩
  ·have hsz1 : 0 < s.size := by omega
   have e0 := hb 0 hsz1 h1
   have ha' : alphaB l[0].toNat = false := by simpa using ha
   rw [← hl, wordN_no h1 ha']
   have hA := Lh (fun w => HA.out l[0].toNat w)
   rw [ha'] at hA
   clear HA HD HP HB hb ha hsz hl
   go_enter Tryz.func119, Tryz.ntmps119
   go_wp2_with fail
   refine (hA.out _).mono ?_
   rintro e w1 ⟨rfl, rfl⟩
   go_wp2
   go_ret
   exact ⟨rfl, rfl⟩
end Go.Proofs.YthmopindibdhnaaGreatDoor
namespace Go.Proofs.YthmopindibdhnaaGreatDoor
open Go.RowKit Go.Shelf
structure Sc (w : World) (P M : Nat) (s : ByteArray) (at_ en : Nat) (tm : Bool) (tv bv ov : Value) : Prop where
 blk : w.heap[P]? = some (.cells #[.string s, .int .i64 at_, .int .i64 en, .bool tm, tv, bv, ov, .map (some M)] 51 (0, 0))
 mp : w.heap[M]? = some (.map #[] 0)
 ne : M ≠ P
abbrev But (P : Nat) (w w' : World) : Prop := w.grownBy w' (some P)
theorem But.refl (P : Nat) (w : World) : But P w w := ⟨rfl, rfl, rfl, Nat.le_refl _, fun _ _ _ => rfl⟩
theorem But.trans {P : Nat} {a b c : World} (h : But P a b) (k : But P b c) : But P a c :=
 ⟨k.os.trans h.os, k.tape.trans h.tape, k.output.trans h.output, Nat.le_trans h.size k.size, fun i hi hn => (k.block i (Nat.lt_of_lt_of_le hi h.size) hn).trans (h.block i hi hn)⟩
theorem But.of_gr {P : Nat} {a b : World} (h : Gr a b) : But P a b := ⟨h.os, h.tape, h.output, h.size, fun k hk _ => h.block k hk⟩
theorem But.set {P : Nat} {w : World} (j : Nat) (v : Value) : But P w (w.setCell ⟨P, j, none⟩ v) :=
 ⟨rfl, rfl, rfl, by simp [World.setCell], fun k _ hn => by
  have : P ≠ k := fun e => hn (by rw [e])
  simp [World.setCell, Array.getElem?_modify, this]⟩
variable {w : World} {P M : Nat} {s : ByteArray} {at_ en : Nat} {tm : Bool} {tv bv ov : Value}
theorem Sc.lt (h : Sc w P M s at_ en tm tv bv ov) : P < w.heap.size ∧ M < w.heap.size := ⟨(Ag h.blk).1, (Ag h.mp).1⟩
theorem Sc.cells (h : Sc w P M s at_ en tm tv bv ov) : w.cell? ⟨P, 0, none⟩ = some (.string s) ∧ w.cell? ⟨P, 1, none⟩ = some (.int .i64 at_) ∧ w.cell? ⟨P, 2, none⟩ = some (.int .i64 en) ∧ w.cell? ⟨P, 3, none⟩ = some (.bool tm) ∧
  w.cell? ⟨P, 4, none⟩ = some tv ∧ w.cell? ⟨P, 5, none⟩ = some bv ∧ w.cell? ⟨P, 6, none⟩ = some ov ∧ w.cell? ⟨P, 7, none⟩ = some (.map (some M)) ∧ ∀ j, w.frozen? ⟨P, j, none⟩ = false := by
 simp [World.cell?, World.frozen?, h.blk]
theorem Sc.gr {w' : World} (h : Sc w P M s at_ en tm tv bv ov) (g : Gr w w') : Sc w' P M s at_ en tm tv bv ov :=
 ⟨by rw [g.block _ h.lt.1]; exact h.blk, by rw [g.block _ h.lt.2]; exact h.mp, h.ne⟩
theorem Sc.setAt (h : Sc w P M s at_ en tm tv bv ov) (x : Nat) : Sc (w.setCell ⟨P, 1, none⟩ (.int .i64 x)) P M s x en tm tv bv ov :=
 ⟨by simp [World.setCell, Array.getElem?_modify, h.blk], by simp [World.setCell, Array.getElem?_modify, Ne.symm h.ne, h.mp], h.ne⟩
theorem Sc.setEn (h : Sc w P M s at_ en tm tv bv ov) (x : Nat) : Sc (w.setCell ⟨P, 2, none⟩ (.int .i64 x)) P M s at_ x tm tv bv ov :=
 ⟨by simp [World.setCell, Array.getElem?_modify, h.blk], by simp [World.setCell, Array.getElem?_modify, Ne.symm h.ne, h.mp], h.ne⟩
theorem Sc.setTm (h : Sc w P M s at_ en tm tv bv ov) (x : Bool) : Sc (w.setCell ⟨P, 3, none⟩ (.bool x)) P M s at_ en x tv bv ov :=
 ⟨by simp [World.setCell, Array.getElem?_modify, h.blk], by simp [World.setCell, Array.getElem?_modify, Ne.symm h.ne, h.mp], h.ne⟩
theorem Sc.setTv (h : Sc w P M s at_ en tm tv bv ov) (x : Value) : Sc (w.setCell ⟨P, 4, none⟩ x) P M s at_ en tm x bv ov :=
 ⟨by simp [World.setCell, Array.getElem?_modify, h.blk], by simp [World.setCell, Array.getElem?_modify, Ne.symm h.ne, h.mp], h.ne⟩
theorem Sc.setBv (h : Sc w P M s at_ en tm tv bv ov) (x : Value) : Sc (w.setCell ⟨P, 5, none⟩ x) P M s at_ en tm tv x ov :=
 ⟨by simp [World.setCell, Array.getElem?_modify, h.blk], by simp [World.setCell, Array.getElem?_modify, Ne.symm h.ne, h.mp], h.ne⟩
theorem run_checkKeyI (m : Bool) (x : Int) (w : World) : (Instr.checkKey m 10000 3 (.int .i64 x)).run Tryz.prog w = .ok () w :=
 MapKept.run_checkKey Tryz.underlying3 (by simp [MapKept.IsKey]) m 9999
theorem look_none {W : World} (h : W.heap[M]? = some (.map #[] 0)) (x : Int) : (Instr.lookup 49 (.map (some M)) (.int .i64 x) true).run Tryz.prog W = .ok (.tuple #[.int .i64 0, .bool false]) W := by
 have hf : Instr.findNow (.int .i64) (.int .i64 x) [] 0 = some none := rfl
 have hz : (zeroValue 3).run Tryz.prog W = .ok (.int .i64 0) W := by kernel_rfl
 simp [Instr.lookup, run_underlying Tryz.underlying49, run_checkKeyI, MapKept.run_getObj_map h, MapKept.run_findKey Tryz.underlying3 hf, Result.andThen, hz]
set_option maxRecDepth 100000 in
theorem step_p (h : Sc w P M s at_ en tm tv bv ov) (hb : at_ ≤ 140737488351232) : Calls Tryz.prog 80 #[.pointer (some ⟨P, 0, none⟩)] w fun e w' => e = .returned (.tuple #[]) ∧ Sc w' P M s (at_ + 1) en tm tv bv ov ∧ But P w w' := by
 obtain ⟨c0, c1, c2, c3, c4, c5, c6, c7, cf⟩ := h.cells
 have H := Lh h
 have hlk : ∀ q : Nat, (Instr.lookup 49 (.map (some M)) (.int .i64 (at_ : Int)) true).run Tryz.prog (w.drewN q) = .ok (.tuple #[.int .i64 0, .bool false]) (w.drewN q) := fun q => look_none (W := w.drewN q) h.mp _
 have b0 : (at_ : Int) + 1 ≤ 9223372036854775807 := by omega
 have b1 : -9223372036854775808 ≤ (at_ : Int) + 1 := by omega
 clear h
 go_enter Tryz.func80, Tryz.ntmps80
 go_wp2_with fail
 go_quiet (fail)
 go_wp2_with fail
 go_end0
 exact ⟨rfl, (H.out.gr ((Gr.refl w).drewN _)).setAt (at_ + 1), (But.of_gr ((Gr.refl w).drewN _)).trans (But.set 1 _)⟩
theorem extractE (s : ByteArray) (a b : Nat) : (s.extract a b).data.toList = (s.data.toList.drop a).take (b - a) := by simp [List.take_drop]
set_option maxRecDepth 100000 in
theorem take_p (h : Sc w P M s at_ en tm tv bv ov) (n : Nat) (hn : at_ + n ≤ s.size) (hs : s.size ≤ 140737488351232) :
  Calls Tryz.prog 120 #[.pointer (some ⟨P, 0, none⟩), .int .i64 n] w fun e w' => e = .returned (.string (s.extract at_ (at_ + n))) ∧ Sc w' P M s (at_ + n) en tm tv bv ov ∧ But P w w' := by
 obtain ⟨c0, c1, c2, c3, c4, c5, c6, c7, cf⟩ := h.cells
 have H := Lh h
 obtain ⟨m, hm⟩ : ∃ m, m = at_ + n := ⟨_, rfl⟩
 have hm' : (at_ : Int) + (n : Int) = (m : Int) := by omega
 have b0 : (m : Int) ≤ 9223372036854775807 := by omega
 have b1 : (m : Int) ≤ (s.size : Int) := by omega
 have b2 : (at_ : Int) ≤ (m : Int) := by omega
 rw [← hm]
 clear h hm hn
 go_enter Tryz.func120, Tryz.ntmps120
 go_wp2_with fail
 go_quiet (fail)
 go_wp2_with fail
 go_ret
 exact ⟨rfl, (H.out.gr ((Gr.refl w).drewN _)).setAt m, (But.of_gr ((Gr.refl w).drewN _)).trans (But.set 1 _)⟩
end Go.Proofs.YthmopindibdhnaaGreatDoor
namespace Go.Proofs.YthmopindibdhnaaGreatDoor
open Go.RowKit Go.Shelf
structure Tok where
 kind : Int
 place : Int
 text : ByteArray
 repl : ByteArray
 more : ByteArray
 opn : Int
def Tok.cells (t : Tok) : List Value := [.int .i64 t.kind, .int .i64 t.place, .string t.text, .string t.repl, .string t.more, .int .i64 t.opn]
def Tok.val (t : Tok) : Value := .agg t.cells.toArray
def tok (k : Int) (t : ByteArray) : Tok := ⟨k, 0, t, ⟨#[]⟩, ⟨#[]⟩, 0⟩
theorem tokInfo : (Tryz.prog.info? 42).map (·.size) = some 6 := by kernel_rfl
theorem Tok.one (t : Tok) : t.cells.toArray.all (·.oneCell') = true := by simp [Tok.cells, Value.oneCell']
variable {w : World} {P M : Nat} {s : ByteArray} {at_ en : Nat} {tm : Bool} {tv bv ov : Value}
theorem But.late {w W W' : World} {g : Nat} (h : But P w W) (hg : w.heap.size ≤ g) (k : But g W W') : But P w W' :=
 ⟨k.os.trans h.os, k.tape.trans h.tape, k.output.trans h.output, Nat.le_trans h.size k.size, fun i hi hn => (k.block i (Nat.lt_of_lt_of_le hi h.size) (fun e => by injection e with e; omega)).trans (h.block i hi hn)⟩
theorem Sc.but {W W' : World} {g : Nat} (h : Sc W P M s at_ en tm tv bv ov) (k : But g W W') (h1 : P ≠ g) (h2 : M ≠ g) : Sc W' P M s at_ en tm tv bv ov :=
 ⟨by rw [k.block _ h.lt.1 (fun e => h1 (by injection e))]; exact h.blk, by rw [k.block _ h.lt.2 (fun e => h2 (by injection e))]; exact h.mp, h.ne⟩
theorem But.row {W : World} {g : Nat} {c : Array Value} {t : TypeId} {A : Array Value} (h : W.heap[g]? = some (.cells c t (0, 0))) : But g W (W.setRow g A) ∧ (W.setRow g A).heap[g]? = some (.cells A t (0, 0)) := by
 refine ⟨⟨rfl, rfl, rfl, by simp [World.setRow], fun k _ hn => ?_⟩, by simp [World.setRow, Array.getElem?_modify, h]⟩
 have : g ≠ k := fun e => hn (by rw [e])
 simp [World.setRow, Array.getElem?_modify, this]
theorem wpList_store_tok {W : World} {ops : Array Oper} {rest : List Oper} {o : Oper} {a : Act} {Q : Exit → Act → World → Prop}
  (hg : o.guard = none) (x v : Operand) (hop : o.op = Op.store 42 x v) {g : Nat} {c : Array Value} {t : Tok} (hx : a.eval x = .pointer (some ⟨g, 0, none⟩)) (hv : a.eval v = t.val)
  (hb : W.heap[g]? = some (.cells c 42 (0, 0))) (hc : c.size = 6)
  (hK : ∀ W', But g W W' → W'.heap[g]? = some (.cells t.cells.toArray 42 (0, 0)) → wpList Tryz.prog ops Q rest (a.put o.dst undef) W') : wpList Tryz.prog ops Q (o :: rest) a W := by
 refine wpList_plain hg fun K' hK' => ?_
 have hrun : (Instr.storeAt 42 (.pointer (some ⟨g, 0, none⟩)) t.val).run Tryz.prog W = .ok () (W.setRow g t.cells.toArray) := by
  simp only [Instr.storeAt, Instr.sureAddr, Sem.run_bind, Sem.run_pure, Result.andThen, Tok.val]
  exact run_storeVar_row W g 42 42 c t.cells.toArray hb (by rw [tokInfo]; rfl) (by rw [hc]; rfl) t.one
 unfold Oper.wp
 simp [execOp, hop, hx, hv, hrun, Result.andThen]
 exact hK' _ _ (hK _ (But.row hb).1 (But.row hb).2)
theorem results_tok {fn : Func} {p : Tmp} (h : fn.results = #[.cell p 42]) {tmps : Array Value} {W : World} {g : Nat} {t : Tok} (hp : tmps.getD p undef = .pointer (some ⟨g, 0, none⟩))
  (hg : W.heap[g]? = some (.cells t.cells.toArray 42 (0, 0))) : (results fn tmps).run Tryz.prog W = .ok t.val W :=
 results_cell_row h tmps W g 42 t.cells.toArray (0, 0) _ hp hg Tryz.underlying42 rfl (by rw [tokInfo]; rfl)
def zTok : Obj := .cells #[.int .i64 0, .int .i64 0, .string ⟨#[]⟩, .string ⟨#[]⟩, .string ⟨#[]⟩, .int .i64 0] 42
set_option maxRecDepth 100000 in
theorem word_m (h : Sc w P M s at_ en tm tv bv ov) (hat : at_ ≤ s.size) (n : Nat) (hw : wordN (s.data.toList.drop at_) = n) (hn : n ≤ 12) (hs : s.size ≤ 140737488351232) :
  Calls Tryz.prog 103 #[.pointer (some ⟨P, 0, none⟩)] w fun e w' => e = .returned (tok 0 (s.extract at_ (at_ + n))).val ∧ Sc w' P M s (at_ + n) en tm tv bv ov ∧ But P w w' := by
 obtain ⟨c0, c1, c2, c3, c4, c5, c6, c7, cf⟩ := h.cells
 have H := Lh h
 have hln := wordN_le (s.data.toList.drop at_)
 rw [hw, List.length_drop, sizeL] at hln
 have HW := Lh (fun w => word_p (s.extract at_ s.size) (by simp [ByteArray.size_extract]; omega) w)
 rw [dropE, hw] at HW
 have HT := Lh (fun (W : World) (hS : Sc W P M s at_ en tm tv bv ov) => take_p hS n (by omega) hs)
 have b0 : (at_ : Int) ≤ (s.size : Int) := by omega
 have b1 : ¬ (n : Int) > 12 := by omega
 clear h hw hln hat
 go_enter Tryz.func103, Tryz.ntmps103
 go_wp2_with fail
 generalize hW : w.alloc (.cells #[.int .i64 0, .int .i64 0, .string ⟨#[]⟩, .string ⟨#[]⟩, .string ⟨#[]⟩, .int .i64 0] 42) = W1
 have G1 : Hid (Gr w W1) := Lh (by rw [← hW]; exact (Gr.refl w).alloc _)
 have K1 : Hid (W1.heap[w.heap.size]? = some (.cells #[.int .i64 0, .int .i64 0, .string ⟨#[]⟩, .string ⟨#[]⟩, .string ⟨#[]⟩, .int .i64 0] 42 (0, 0))) := Lh (by rw [← hW]; exact heap_alloc_new w _)
 clear hW c0 c1 c2 c3 c4 c5 c6 c7 cf
 obtain ⟨c0, c1, c2, c3, c4, c5, c6, c7, cf⟩ := (H.out.gr G1.out).cells
 go_quiet ((go_at_call 119; exact quiet_at (HW.out _)))
 go_wp2_with fail
 refine (HT.out _ (H.out.gr (G1.out.drewN _))).mono ?_
 rintro e w2 ⟨rfl, hS2, hb2⟩
 have hP : P < w.heap.size := H.out.lt.1
 have hM : M < w.heap.size := H.out.lt.2
 have K2 := Lh ((hb2.block _ (Ag K1.out).1 (by simp; omega)).trans K1.out)
 have B2 := Lh ((But.of_gr (G1.out.drewN _)).trans hb2)
 have S2 := Lh hS2
 clear hS2 hb2 K1 HT HW c0 c1 c2 c3 c4 c5 c6 c7 cf
 go_wp2_with (refine wpList_store_tok rfl (.tmp 2) (.tmp 24) rfl (t := tok 0 (s.extract at_ (at_ + n))) rfl rfl K2.out rfl ?_)
 intro W3 hb3 hk3
 have B3 := Lh hb3
 have K3 := Lh hk3
 clear hb3 hk3
 go_wp2_with fail
 refine bodyPost_ret (results_tok rfl rfl K3.out) rfl ?_
 exact ⟨rfl, S2.out.but B3.out (by omega) (by omega), B2.out.late (Nat.le_refl _) B3.out⟩
end Go.Proofs.YthmopindibdhnaaGreatDoor
namespace Go.Proofs.YthmopindibdhnaaGreatDoor
open Go.RowKit Go.Shelf
def digR (l : List UInt8) : Nat → Nat → Nat
 | 0, n => n
 | f + 1, n => match l[n]? with
  | none => n
  | some c => if digB c.toNat = true then digR l f (n + 1) else n
variable {l : List UInt8} {f n : Nat}
theorem digR_end (h : l.length ≤ n) : digR l f n = n := by
 cases f with
 | zero => rfl
 | succ f => rw [digR, List.getElem?_eq_none h]
theorem digR_on (h : n < l.length) (hf : l.length ≤ n + f) (hc : digB l[n].toNat = true) : ∃ f', l.length ≤ n + 1 + f' ∧ digR l f n = digR l f' (n + 1) := by
 cases f with
 | zero => omega
 | succ f => exact ⟨f, by omega, by rw [digR, List.getElem?_eq_getElem h]; simp only; rw [if_pos hc]⟩
theorem digR_stop (h : n < l.length) (hc : digB l[n].toNat = false) : digR l f n = n := by
 cases f with
 | zero => rfl
 | succ f => rw [digR, List.getElem?_eq_getElem h]; simp only; rw [if_neg (by rw [hc]; decide)]
variable {w : World} {P M : Nat} {s : ByteArray} {at_ en : Nat} {tm : Bool} {tv bv ov : Value}
set_option maxRecDepth 100000 in
set_option maxHeartbeats 1000000 in
theorem number_m (h : Sc w P M s at_ en tm tv bv ov) (hat : at_ < s.size) (hs : s.size ≤ 140737488351232) :
  Calls Tryz.prog 105 #[.pointer (some ⟨P, 0, none⟩)] w fun e w' => e = .returned (tok 1 (s.extract at_ (digR s.data.toList s.size (at_ + 1)))).val ∧ Sc w' P M s (digR s.data.toList s.size (at_ + 1)) en tm tv bv ov ∧ But P w w' := by
 have H := Lh h
 have HD := Lh dig_p
 obtain ⟨l, hl⟩ : ∃ l, l = s.data.toList := ⟨_, rfl⟩
 have hsz : s.size = l.length := by rw [hl, ← sizeL]
 have HB := Lh (fun n (h : n < s.size) (h' : n < l.length) => (show s[n] = l[n] by subst hl; exact byteE s n h h'))
 have HR : Hid (∃ f, l.length ≤ at_ + 1 + f ∧ digR l s.size (at_ + 1) = digR l f (at_ + 1)) := Lh ⟨s.size, by omega, rfl⟩
 rw [← hl]
 have HT := Lh (fun (W : World) (hS : Sc W P M s at_ en tm tv bv ov) (n : Nat) (hn : at_ + n ≤ s.size) => take_p hS n hn hs)
 generalize digR l s.size (at_ + 1) = R at *
 have Hsz := Lh hsz
 have hat' : (at_ : Int) < (s.size : Int) := by omega
 have hP : P < w.heap.size := h.lt.1
 have hM : M < w.heap.size := h.lt.2
 clear h hl hsz
 go_enter Tryz.func105, Tryz.ntmps105
 go_wp2_with fail
 generalize hW : w.alloc (.cells #[.int .i64 0, .int .i64 0, .string ⟨#[]⟩, .string ⟨#[]⟩, .string ⟨#[]⟩, .int .i64 0] 42) = W1
 have G1 : Hid (Gr w W1) := Lh (by rw [← hW]; exact (Gr.refl w).alloc _)
 have K1 : Hid (W1.heap[w.heap.size]? = some (.cells #[.int .i64 0, .int .i64 0, .string ⟨#[]⟩, .string ⟨#[]⟩, .string ⟨#[]⟩, .int .i64 0] 42 (0, 0))) := Lh (by rw [← hW]; exact heap_alloc_new w _)
 clear hW
 go_loopw [3] (fun sc wr => ∃ k f : Nat, sc = .int .i64 (k : Int) ∧ at_ + k ≤ s.size ∧ l.length ≤ at_ + k + f ∧ Gr W1 wr ∧ Hid (R = digR l f (at_ + k))) (fun sc _ => leftTo s.size sc)
 case atStart => obtain ⟨f, h2, h3⟩ := HR.out; exact ⟨1, f, rfl, by omega, h2, Gr.refl _, Lh h3⟩
 case round =>
  obtain ⟨k, f, rfl, hk, hf, hg, hR⟩ := hrel
  clear HR
  have Hg := Lh hg
  clear hg
  obtain ⟨c0, c1, c2, c3, c4, c5, c6, c7, cf⟩ := ((H.out.gr G1.out).gr Hg.out).cells
  obtain ⟨m, hm⟩ : ∃ m, m = at_ + k := ⟨_, rfl⟩
  have hm' : (at_ : Int) + (k : Int) = (m : Int) := by omega
  have bm : (m : Int) ≤ 9223372036854775807 := by omega
  have bk : (k : Int) + 1 ≤ 9223372036854775807 := by omega
  have bk2 : -9223372036854775808 ≤ (k : Int) + 1 := by omega
  have hwm : IntKind.i64.wrap (m : Int) = (m : Int) := by rw [IntKind.wrap_i64]; omega
  rw [← hm] at hR hf
  have Hm := Lh hm
  by_cases hc : m < l.length
  ·have hsn : m < s.size := by rw [Hsz.out]; exact hc
   have hc' : (m : Int) < (s.size : Int) := by omega
   have en_ := HB.out m hsn hc
   have hD := Lh (fun w => HD.out l[m].toNat w)
   by_cases hd : digB l[m].toNat = true
   ·have HE : Hid (∃ f', l.length ≤ m + 1 + f' ∧ R = digR l f' (m + 1)) := Lh (by rw [hR.out]; exact digR_on hc hf hd)
    rw [hd] at hD
    generalize l[m] = x at *
    have Hf := Lh hsn
    clear hd hR HB HD hf hk hm
    go_wp2_with fail
    go_quiet ((go_at_call 104; exact quiet_at (hD.out _)))
    go_wp2_with fail
    go_roundw
    case rel =>
     obtain ⟨f', h5, h6⟩ := HE.out
     have := Hm.out
     have e : at_ + (k + 1) = m + 1 := by omega
     exact ⟨k + 1, f', rfl, by omega, by omega, Hg.out.drewN _, Lh (by rw [e]; exact h6)⟩
    case measure => have := Hm.out; simp only [leftTo]; omega
   ·have hd' : digB l[m].toNat = false := by simpa using hd
    have E : Hid (R = m) := Lh (by rw [hR.out, digR_stop hc hd'])
    rw [hd'] at hD
    generalize l[m] = x at *
    clear hd hd' hR HB HD hf hm hc
    go_wp2_with fail
    go_quiet ((go_at_call 104; exact quiet_at (hD.out _)))
    go_wp2_with fail
    refine (HT.out _ (((H.out.gr G1.out).gr Hg.out).gr ((Gr.refl wr).drewN _)) k (by omega)).mono ?_
    rintro e w2 ⟨rfl, hS2, hb2⟩
    have K2 := Lh ((hb2.block _ (Nat.lt_of_lt_of_le (Ag K1.out).1 (Gr.size (Hg.out.drewN _))) (by simp; omega)).trans (((Hg.out.drewN _).block _ (Ag K1.out).1).trans K1.out))
    have B2 := Lh ((But.of_gr (G1.out.trans (Hg.out.drewN _))).trans hb2)
    have S2 := Lh hS2
    clear hS2 hb2 HT c0 c1 c2 c3 c4 c5 c6 c7 cf
    rw [← Hm.out] at S2 ⊢
    go_wp2_with (refine wpList_store_tok rfl (.tmp 2) (.tmp 35) rfl (t := tok 1 (s.extract at_ m)) rfl rfl K2.out rfl ?_)
    intro W3 hb3 hk3
    have B3 := Lh hb3
    have K3 := Lh hk3
    clear hb3 hk3
    go_wp2_with fail
    refine bodyPost_ret (results_tok rfl rfl K3.out) rfl ?_
    rw [E.out]
    exact ⟨rfl, S2.out.but B3.out (by omega) (by omega), B2.out.late (Nat.le_refl _) B3.out⟩
  ·have E : Hid (R = m) := Lh (by rw [hR.out, digR_end (by omega)])
   have hc' : decide (m < s.size) = false := by rw [Hsz.out]; simp; omega
   clear hR HB HD hf hm hc
   go_wp2_with fail
   go_quiet (fail)
   go_wp2_with fail
   refine (HT.out _ (((H.out.gr G1.out).gr Hg.out).gr ((Gr.refl wr).drewN _)) k (by omega)).mono ?_
   rintro e w2 ⟨rfl, hS2, hb2⟩
   have K2 := Lh ((hb2.block _ (Nat.lt_of_lt_of_le (Ag K1.out).1 (Gr.size (Hg.out.drewN _))) (by simp; omega)).trans (((Hg.out.drewN _).block _ (Ag K1.out).1).trans K1.out))
   have B2 := Lh ((But.of_gr (G1.out.trans (Hg.out.drewN _))).trans hb2)
   have S2 := Lh hS2
   clear hS2 hb2 HT c0 c1 c2 c3 c4 c5 c6 c7 cf
   rw [← Hm.out] at S2 ⊢
   go_wp2_with (refine wpList_store_tok rfl (.tmp 2) (.tmp 35) rfl (t := tok 1 (s.extract at_ m)) rfl rfl K2.out rfl ?_)
   intro W3 hb3 hk3
   have B3 := Lh hb3
   have K3 := Lh hk3
   clear hb3 hk3
   go_wp2_with fail
   refine bodyPost_ret (results_tok rfl rfl K3.out) rfl ?_
   rw [E.out]
   exact ⟨rfl, S2.out.but B3.out (by omega) (by omega), B2.out.late (Nat.le_refl _) B3.out⟩
end Go.Proofs.YthmopindibdhnaaGreatDoor
namespace Go.Proofs.YthmopindibdhnaaGreatDoor
open Go.RowKit Go.Shelf
def signsL : List (List UInt8) := [[40], [41], [91], [93], [123], [125], [44], [59], [58], [63], [92], [61], [61, 61], [33, 61], [60], [62], [60, 61], [62, 61], [60, 61, 62], [43], [45], [42], [47], [37], [46], [46, 46], [43, 43], [45, 45], [43, 61], [45, 61], [42, 61], [47, 61], [37, 61], [46, 61], [124, 124, 61], [38, 38, 61], [47, 47, 61], [124, 124], [38, 38], [47, 47], [33], [61, 126], [33, 126], [61, 62], [45, 62], [38], [124], [94]]
def isSignB (l : List UInt8) : Bool := signsL.contains l
set_option maxRecDepth 100000 in
set_option maxHeartbeats 2000000 in
theorem isSign_p (s : ByteArray) (w : World) : Calls Tryz.prog 121 #[.string s] w fun e w' => e = .returned (.bool (isSignB s.data.toList)) ∧ w = w' := by
 obtain ⟨R, hR⟩ : ∃ R, R = isSignB s.data.toList := ⟨_, rfl⟩
 have HR : Hid (R = (s.toList == [40] || s.toList == [41] || s.toList == [91] || s.toList == [93] || s.toList == [123] || s.toList == [125] || s.toList == [44] || s.toList == [59] || s.toList == [58] || s.toList == [63] || s.toList == [92] || s.toList == [61] || s.toList == [61, 61] || s.toList == [33, 61] || s.toList == [60] || s.toList == [62] || s.toList == [60, 61] || s.toList == [62, 61] || s.toList == [60, 61, 62] || s.toList == [43] || s.toList == [45] || s.toList == [42] || s.toList == [47] || s.toList == [37] || s.toList == [46] || s.toList == [46, 46] || s.toList == [43, 43] || s.toList == [45, 45] || s.toList == [43, 61] || s.toList == [45, 61] || s.toList == [42, 61] || s.toList == [47, 61] || s.toList == [37, 61] || s.toList == [46, 61] || s.toList == [124, 124, 61] || s.toList == [38, 38, 61] || s.toList == [47, 47, 61] || s.toList == [124, 124] || s.toList == [38, 38] || s.toList == [47, 47] || s.toList == [33] || s.toList == [61, 126] || s.toList == [33, 126] || s.toList == [61, 62] || s.toList == [45, 62] || s.toList == [38] || s.toList == [124] || s.toList == [94])) := Lh (by
  rw [hR, ByteArray.toList_eq]
  simp only [isSignB, signsL, List.contains_cons, List.contains_nil, Bool.or_false, Bool.or_assoc])
 rw [← hR]
 clear hR
 go_enter Tryz.func121, Tryz.ntmps121
 go_wp2
 all_goals
  go_ret
  refine ⟨?_, rfl⟩
  rw [HR.out]
  first
   | (simp [*]; done)
   | simp_all
end Go.Proofs.YthmopindibdhnaaGreatDoor
namespace Go.Proofs.YthmopindibdhnaaGreatDoor
open Go.RowKit Go.Shelf
def signGo (l : List UInt8) : Nat → Nat
 | 0 => 0
 | n + 1 => if isSignB (l.take (n + 1)) = true then n + 1 else signGo l n
def signN (l : List UInt8) : Nat := signGo l (min 3 l.length)
variable {w : World} {P M : Nat} {s : ByteArray} {at_ en : Nat} {tm : Bool} {tv bv ov : Value}
theorem signGo_le (l : List UInt8) : ∀ n, signGo l n ≤ n
 | 0 => Nat.le_refl _
 | n + 1 => by
  rw [signGo]
  split
  ·exact Nat.le_refl _
  ·exact Nat.le_succ_of_le (signGo_le l n)
def nat0 : Value → Nat
 | .int _ c => c.toNat
 | _ => 0
set_option maxRecDepth 100000 in
set_option maxHeartbeats 1000000 in
theorem sign_m (h : Sc w P M s at_ en tm tv bv ov) (hat : at_ ≤ s.size) (hs : s.size ≤ 140737488351232) (n : Nat) (hn : signN (s.data.toList.drop at_) = n) (h0 : 0 < n) :
  Calls Tryz.prog 106 #[.pointer (some ⟨P, 0, none⟩)] w fun e w' => e = .returned (tok 3 (s.extract at_ (at_ + n))).val ∧ Sc w' P M s (at_ + n) en tm tv bv ov ∧ But P w w' := by
 have H := Lh h
 have HI := Lh isSign_p
 obtain ⟨r, hr⟩ : ∃ r, r = s.extract at_ s.size := ⟨_, rfl⟩
 have hrs : r.size = s.size - at_ := by rw [hr]; simp [ByteArray.size_extract]
 have hrl : r.data.toList = s.data.toList.drop at_ := by rw [hr, dropE]
 have HE : Hid (∀ k : Nat, (r.extract 0 k).data.toList = r.data.toList.take k) := Lh (fun k => by rw [extractE]; simp)
 have hmin : signN (s.data.toList.drop at_) = signGo r.data.toList (min 3 r.size) := by rw [signN, ← hrl, sizeL]
 rw [hmin] at hn
 have HR : Hid (n = signGo r.data.toList (min 3 r.size)) := Lh hn.symm
 have hnr : n ≤ r.size := by have := signGo_le r.data.toList (min 3 r.size); omega
 have HT := Lh (fun (W : World) (hS : Sc W P M s at_ en tm tv bv ov) => take_p hS n (by omega) hs)
 have b0 : (at_ : Int) ≤ (s.size : Int) := by omega
 have hP : P < w.heap.size := h.lt.1
 have hM : M < w.heap.size := h.lt.2
 have Hr := Lh hr
 have Hrs := Lh hrs
 clear h hn hmin hrl hrs
 go_enter Tryz.func106, Tryz.ntmps106
 go_wp2_with fail
 generalize hW : w.alloc (.cells #[.int .i64 0, .int .i64 0, .string ⟨#[]⟩, .string ⟨#[]⟩, .string ⟨#[]⟩, .int .i64 0] 42) = W1
 have G1 : Hid (Gr w W1) := Lh (by rw [← hW]; exact (Gr.refl w).alloc _)
 have K1 : Hid (W1.heap[w.heap.size]? = some (.cells #[.int .i64 0, .int .i64 0, .string ⟨#[]⟩, .string ⟨#[]⟩, .string ⟨#[]⟩, .int .i64 0] 42 (0, 0))) := Lh (by rw [← hW]; exact heap_alloc_new w _)
 clear hW
 obtain ⟨c0, c1, c2, c3, c4, c5, c6, c7, cf⟩ := (H.out.gr G1.out).cells
 go_quiet (fail)
 clear c0 c1 c2 c3 c4 c5 c6 c7 cf
 rw [← hr]
 clear hr
 go_wp2_with fail
 go_loopw [4] (fun sc wr => ∃ k : Nat, sc = .int .i64 (k : Int) ∧ k ≤ r.size ∧ Gr W1 wr ∧ Hid (n = signGo r.data.toList k)) (fun sc _ => nat0 sc)
 case atStart => exact ⟨min 3 r.size, by simp; omega, by omega, (Gr.refl _).drewN _, HR⟩
 case round =>
  obtain ⟨k, rfl, hk, hg, hR⟩ := hrel
  clear HR
  have Hg := Lh hg
  clear hg
  cases k with
  | zero => exfalso; have := hR.out; rw [signGo] at this; omega
  | succ k =>
   have hkb : (k : Int) ≤ 9223372036854775807 := by have := Hrs.out; omega
   have hkc : -9223372036854775808 ≤ (k : Int) := by omega
   have hk1 : (0 : Int) < ((k + 1 : Nat) : Int) := by omega
   have hk2 : ((k + 1 : Nat) : Int) ≤ (r.size : Int) := by omega
   obtain ⟨m, hm⟩ : ∃ m, m = k + 1 := ⟨_, rfl⟩
   have hI := Lh (fun w => HI.out (r.extract 0 (k + 1)) w)
   rw [HE.out] at hI
   by_cases hb : isSignB (r.data.toList.take (k + 1)) = true
   ·have hnk : n = k + 1 := by have := hR.out; rw [signGo, if_pos hb] at this; exact this
    rw [hb] at hI
    rw [← hm] at hI hk1 hk2 hnk ⊢
    have Hnk := Lh hnk
    clear hb hR HI HE hnk hm
    go_wp2_with fail
    refine (hI.out _).mono ?_
    rintro e w2 ⟨rfl, rfl⟩
    go_wp2_with fail
    rw [← Hnk.out]
    refine (HT.out _ ((H.out.gr G1.out).gr Hg.out)).mono ?_
    rintro e w2 ⟨rfl, hS2, hb2⟩
    have K2 := Lh ((hb2.block _ (Nat.lt_of_lt_of_le (Ag K1.out).1 (Gr.size Hg.out)) (by simp; omega)).trans ((Hg.out.block _ (Ag K1.out).1).trans K1.out))
    have B2 := Lh ((But.of_gr (G1.out.trans Hg.out)).trans hb2)
    have S2 := Lh hS2
    clear hS2 hb2 HT
    go_wp2_with (refine wpList_store_tok rfl (.tmp 2) (.tmp 28) rfl (t := tok 3 (s.extract at_ (at_ + n))) rfl rfl K2.out rfl ?_)
    intro W3 hb3 hk3
    have B3 := Lh hb3
    have K3 := Lh hk3
    clear hb3 hk3
    go_wp2_with fail
    refine bodyPost_ret (results_tok rfl rfl K3.out) rfl ?_
    exact ⟨rfl, S2.out.but B3.out (by omega) (by omega), B2.out.late (Nat.le_refl _) B3.out⟩
   ·have hR2 : Hid (n = signGo r.data.toList k) := Lh (by have := hR.out; rw [signGo, if_neg hb] at this; exact this)
    have hks : ((k + 1 : Nat) : Int) - 1 = (k : Int) := by omega
    rw [show isSignB (r.data.toList.take (k + 1)) = false by simpa using hb] at hI
    rw [← hm] at hI hk1 hk2 hks ⊢
    have Hm := Lh hm
    clear hb hR HI HE hm
    go_wp2_with fail
    refine (hI.out _).mono ?_
    rintro e w2 ⟨rfl, rfl⟩
    go_wp2_with fail
    go_roundw
    case rel => exact ⟨k, rfl, by omega, Hg.out, hR2⟩
    case measure => have := Hm.out; simp only [nat0]; omega
end Go.Proofs.YthmopindibdhnaaGreatDoor
namespace Go.Proofs.YthmopindibdhnaaGreatDoor
open Go.RowKit Go.Shelf
theorem idx_any (s : ByteArray) (x : Int) (w : World) : Calls Tryz.prog 85 #[.string s, .int .u8 x] w fun e w' => e = .returned (.int .i64 (Lib.indexByte s.data.toList x.toNat.toUInt8)) ∧ w = w' :=
 (Any.strings_IndexByte Tryz.lays137 s x w).mono fun _ _ ⟨he, h⟩ => ⟨he, h.symm⟩
theorem delim_p (x : Int) (w : World) : Calls Tryz.prog 124 #[.int .u8 x] w fun e w' => e = .returned (.bool (delimB x)) ∧ w = w' := by
 have HI := Lh (fun w => idx_any ⟨#[40, 91, 123, 60, 47, 33, 124, 126, 39, 34]⟩ x w)
 rw [show (⟨#[40, 91, 123, 60, 47, 33, 124, 126, 39, 34]⟩ : ByteArray).data.toList = [40, 91, 123, 60, 47, 33, 124, 126, 39, 34] from rfl] at HI
 unfold delimB
 generalize Lib.indexByte [40, 91, 123, 60, 47, 33, 124, 126, 39, 34] x.toNat.toUInt8 = r at *
 go_enter Tryz.func124, Tryz.ntmps124
 go_wp2_with fail
 refine (HI.out _).mono ?_
 rintro e w1 ⟨rfl, rfl⟩
 go_wp2
 go_ret
 exact ⟨by first | rfl | simp, rfl⟩
theorem sigil_p (x : Int) (w : World) : Calls Tryz.prog 118 #[.int .u8 x] w fun e w' => e = .returned (.bool (sigilB x)) ∧ w = w' := by
 have HI := Lh (fun w => idx_any ⟨#[36, 64, 37, 38]⟩ x w)
 rw [show (⟨#[36, 64, 37, 38]⟩ : ByteArray).data.toList = [36, 64, 37, 38] from rfl] at HI
 unfold sigilB
 generalize Lib.indexByte [36, 64, 37, 38] x.toNat.toUInt8 = r at *
 go_enter Tryz.func118, Tryz.ntmps118
 go_wp2_with fail
 refine (HI.out _).mono ?_
 rintro e w1 ⟨rfl, rfl⟩
 go_wp2
 go_ret
 exact ⟨by first | rfl | simp, rfl⟩
theorem cutNo (s p : ByteArray) (h : Lib.hasPrefix s.data.toList p.data.toList = false) (w : World) : Calls Tryz.prog 113 #[.string s, .string p] w fun e w' => e = .returned (.tuple #[.string ⟨(Lib.trimPrefix s.data.toList p.data.toList).toArray⟩, .bool false]) ∧ w = w' := by
 have g := Any.strings_CutPrefix Tryz.lays103 s p w
 change Calls Tryz.prog 113 _ _ _ at g
 rw [h] at g
 exact g.mono fun e w' ⟨he, hb⟩ => ⟨he, hb.symm⟩
variable {w : World} {P M : Nat} {s : ByteArray} {at_ en : Nat} {tm : Bool} {tv bv ov : Value}
theorem results_tokB {fn : Func} {p u : Tmp} (h : fn.results = #[.cell p 42, .tmp u]) {tmps : Array Value} {W : World} {g : Nat} {t : Tok} {b : Bool} (hp : tmps.getD p undef = .pointer (some ⟨g, 0, none⟩))
  (hg : W.heap[g]? = some (.cells t.cells.toArray 42 (0, 0))) (hu : tmps.getD u undef = .bool b) : (results fn tmps).run Tryz.prog W = .ok (.tuple #[t.val, .bool b]) W := by
 have hl := run_loadVar_row (P := Tryz.prog) W g 42 42 t.cells.toArray (0, 0) _ hg Tryz.underlying42 rfl (by rw [tokInfo]; rfl)
 rw [results_cell_tmp h, hp, hu]
 simp only [asAddr, Sem.run_pure, Result.andThen_ok, hl]
 rfl
def tok0 : Tok := ⟨0, 0, ⟨#[]⟩, ⟨#[]⟩, ⟨#[]⟩, 0⟩
set_option maxRecDepth 100000 in
set_option maxHeartbeats 1000000 in
theorem heredoc_no (h : Sc w P M s at_ en tm tv bv ov) (hat : at_ ≤ s.size) (hn : Lib.hasPrefix (s.data.toList.drop at_) [60, 60] = false) :
  Calls Tryz.prog 100 #[.pointer (some ⟨P, 0, none⟩)] w fun e w' => e = .returned (.tuple #[tok0.val, .bool false]) ∧ Sc w' P M s at_ en tm tv bv ov ∧ But P w w' := by
 have H := Lh h
 have hcp := cutNo (s.extract at_ s.size) ⟨#[60, 60]⟩ (by rw [dropE]; exact hn)
 generalize (⟨(Lib.trimPrefix (s.extract at_ s.size).data.toList (⟨#[60, 60]⟩ : ByteArray).data.toList).toArray⟩ : ByteArray) = cut at hcp
 have HC := Lh hcp
 have b0 : (at_ : Int) ≤ (s.size : Int) := by omega
 have hP : P < w.heap.size := h.lt.1
 have hM : M < w.heap.size := h.lt.2
 clear h hn hcp
 go_enter Tryz.func100, Tryz.ntmps100
 go_wp2_with fail
 generalize hW : w.alloc (.cells #[.int .i64 0, .int .i64 0, .string ⟨#[]⟩, .string ⟨#[]⟩, .string ⟨#[]⟩, .int .i64 0] 42) = W1
 have G1 : Hid (Gr w W1) := Lh (by rw [← hW]; exact (Gr.refl w).alloc _)
 have K1 : Hid (W1.heap[w.heap.size]? = some (.cells #[.int .i64 0, .int .i64 0, .string ⟨#[]⟩, .string ⟨#[]⟩, .string ⟨#[]⟩, .int .i64 0] 42 (0, 0))) := Lh (by rw [← hW]; exact heap_alloc_new w _)
 clear hW
 obtain ⟨c0, c1, c2, c3, c4, c5, c6, c7, cf⟩ := (H.out.gr G1.out).cells
 go_quiet ((go_at_call 113; exact quiet_at (HC.out _)))
 clear c0 c1 c2 c3 c4 c5 c6 c7 cf
 go_wp2_with (refine wpList_store_tok rfl (.tmp 2) (.tmp 24) rfl (t := tok0) rfl rfl K1.out rfl ?_)
 intro W3 hb3 hk3
 have B3 := Lh hb3
 have K3 := Lh hk3
 clear hb3 hk3
 go_wp2_with fail
 refine bodyPost_ret (results_tokB rfl rfl K3.out rfl) rfl ?_
 exact ⟨rfl, (H.out.gr (G1.out.drewN _)).but B3.out (by omega) (by omega), (But.of_gr (G1.out.drewN _)).late (Nat.le_refl _) B3.out⟩
set_option maxRecDepth 100000 in
set_option maxHeartbeats 1000000 in
theorem variable_no (h : Sc w P M s at_ en tm tv bv ov) (hat : at_ < s.size) (hs : s.size ≤ 140737488351232) (x : UInt8) (hx : s.data.toList[at_]? = some x) (hn : sigilB x.toNat = false) :
  Calls Tryz.prog 101 #[.pointer (some ⟨P, 0, none⟩)] w fun e w' => e = .returned (.tuple #[tok0.val, .bool false]) ∧ Sc w' P M s at_ en tm tv bv ov ∧ But P w w' := by
 have H := Lh h
 have HS := Lh (fun w => sigil_p x.toNat w)
 rw [hn] at HS
 have hL : at_ < s.data.toList.length := by rw [sizeL]; exact hat
 have en_ : s[at_] = x := by rw [byteE s at_ hat hL]; rw [List.getElem?_eq_getElem hL] at hx; exact Option.some.inj hx
 have b0 : (at_ : Int) < (s.size : Int) := by omega
 have b1 : (at_ : Int) + 1 ≤ 9223372036854775807 := by omega
 have b2 : -9223372036854775808 ≤ (at_ : Int) + 1 := by omega
 have b3 : (at_ : Int) + 1 ≤ (s.size : Int) := by omega
 have hP : P < w.heap.size := h.lt.1
 have hM : M < w.heap.size := h.lt.2
 clear h hn hx
 go_enter Tryz.func101, Tryz.ntmps101
 go_wp2_with fail
 generalize hW : w.alloc (.cells #[.int .i64 0, .int .i64 0, .string ⟨#[]⟩, .string ⟨#[]⟩, .string ⟨#[]⟩, .int .i64 0] 42) = W1
 have G1 : Hid (Gr w W1) := Lh (by rw [← hW]; exact (Gr.refl w).alloc _)
 have K1 : Hid (W1.heap[w.heap.size]? = some (.cells #[.int .i64 0, .int .i64 0, .string ⟨#[]⟩, .string ⟨#[]⟩, .string ⟨#[]⟩, .int .i64 0] 42 (0, 0))) := Lh (by rw [← hW]; exact heap_alloc_new w _)
 clear hW
 obtain ⟨c0, c1, c2, c3, c4, c5, c6, c7, cf⟩ := (H.out.gr G1.out).cells
 go_quiet (fail)
 clear c0 c1 c2 c3 c4 c5 c6 c7 cf
 go_wp2_with fail
 refine (HS.out _).mono ?_
 rintro e w2 ⟨rfl, rfl⟩
 go_wp2_with (refine wpList_store_tok rfl (.tmp 2) (.tmp 33) rfl (t := tok0) rfl rfl K1.out rfl ?_)
 intro W3 hb3 hk3
 have B3 := Lh hb3
 have K3 := Lh hk3
 clear hb3 hk3
 go_wp2_with fail
 refine bodyPost_ret (results_tokB rfl rfl K3.out rfl) rfl ?_
 exact ⟨rfl, (H.out.gr (G1.out.drewN _)).but B3.out (by omega) (by omega), (But.of_gr (G1.out.drewN _)).late (Nat.le_refl _) B3.out⟩
set_option maxRecDepth 100000 in
set_option maxHeartbeats 1000000 in
theorem variable_yes (h : Sc w P M s at_ en tm tv bv ov) (hat : at_ + 1 < s.size) (hs : s.size ≤ 140737488351232) (x : UInt8) (hx : s.data.toList[at_]? = some x) (hn : sigilB x.toNat = true) (n : Nat) (hw : wordN (s.data.toList.drop (at_ + 1)) = n) (h0 : 0 < n) (h12 : n ≤ 12) :
  Calls Tryz.prog 101 #[.pointer (some ⟨P, 0, none⟩)] w fun e w' => e = .returned (.tuple #[(tok 2 (s.extract at_ (at_ + (1 + n)))).val, .bool true]) ∧ Sc w' P M s (at_ + (1 + n)) en tm tv bv ov ∧ But P w w' := by
 have H := Lh h
 have HS := Lh (fun w => sigil_p x.toNat w)
 rw [hn] at HS
 have hL : at_ < s.data.toList.length := by rw [sizeL]; omega
 have hat0 : at_ < s.size := by omega
 have en_ : s[at_] = x := by rw [byteE s at_ hat0 hL]; rw [List.getElem?_eq_getElem hL] at hx; exact Option.some.inj hx
 have hln := wordN_le (s.data.toList.drop (at_ + 1))
 rw [hw, List.length_drop, sizeL] at hln
 have HW := Lh (fun w => word_p (s.extract (at_ + 1) s.size) (by simp [ByteArray.size_extract]; omega) w)
 rw [dropE, hw] at HW
 have HT := Lh (fun (W : World) (hS : Sc W P M s at_ en tm tv bv ov) => take_p hS (1 + n) (by omega) hs)
 have hne : ((s.extract (at_ + 1) s.size).toList == []) = false := by
  rw [ByteArray.toList_eq, dropE]; simp; exact hat
 have b0 : (at_ : Int) < (s.size : Int) := by omega
 have b1 : (at_ : Int) + 1 ≤ 9223372036854775807 := by omega
 have b2 : -9223372036854775808 ≤ (at_ : Int) + 1 := by omega
 have b3 : (at_ : Int) + 1 ≤ (s.size : Int) := by omega
 have n0 : ((n : Int) == 0) = false := by simp; omega
 have n1 : ¬ (n : Int) > 12 := by omega
 have n2 : (1 : Int) + (n : Int) ≤ 9223372036854775807 := by omega
 have n3 : -9223372036854775808 ≤ (1 : Int) + (n : Int) := by omega
 obtain ⟨m, hm⟩ : ∃ m, m = 1 + n := ⟨_, rfl⟩
 have hw1 : IntKind.i64.wrap ((1 : Int) + (n : Int)) = (m : Int) := by rw [IntKind.wrap_i64]; omega
 have hw2 : wrap64 ((1 : Int) + (n : Int)) = (m : Int) := by simp only [wrap64]; omega
 rw [← hm] at HT ⊢
 have hP : P < w.heap.size := h.lt.1
 have hM : M < w.heap.size := h.lt.2
 have Hat := Lh hat
 clear h hn hx hw hln h0 hm n2 n3 hat
 obtain ⟨r, hr⟩ : ∃ r, r = s.extract (at_ + 1) s.size := ⟨_, rfl⟩
 rw [← hr] at HW hne
 have Hr := Lh hr
 clear hr
 go_enter Tryz.func101, Tryz.ntmps101
 go_wp2_with fail
 generalize hW : w.alloc (.cells #[.int .i64 0, .int .i64 0, .string ⟨#[]⟩, .string ⟨#[]⟩, .string ⟨#[]⟩, .int .i64 0] 42) = W1
 have G1 : Hid (Gr w W1) := Lh (by rw [← hW]; exact (Gr.refl w).alloc _)
 have K1 : Hid (W1.heap[w.heap.size]? = some (.cells #[.int .i64 0, .int .i64 0, .string ⟨#[]⟩, .string ⟨#[]⟩, .string ⟨#[]⟩, .int .i64 0] 42 (0, 0))) := Lh (by rw [← hW]; exact heap_alloc_new w _)
 clear hW
 obtain ⟨c0, c1, c2, c3, c4, c5, c6, c7, cf⟩ := (H.out.gr G1.out).cells
 go_quiet (fail)
 clear c0 c1 c2 c3 c4 c5 c6 c7 cf
 rw [← Hr.out]
 go_wp2_with fail
 refine (HS.out _).mono ?_
 rintro e w2 ⟨rfl, rfl⟩
 go_wp2_with fail
 refine (HW.out _).mono ?_
 rintro e w2 ⟨rfl, rfl⟩
 clear b1 b2 b3
 go_wp2_with fail
 refine (HT.out _ (H.out.gr (G1.out.drewN _))).mono ?_
 rintro e w2 ⟨rfl, hS2, hb2⟩
 have K2 := Lh ((hb2.block _ (Ag K1.out).1 (by simp; omega)).trans K1.out)
 have B2 := Lh ((But.of_gr (G1.out.drewN _)).trans hb2)
 have S2 := Lh hS2
 clear hS2 hb2 K1 HT HW
 go_wp2_with (refine wpList_store_tok rfl (.tmp 2) (.tmp 71) rfl (t := tok 2 (s.extract at_ (at_ + m))) rfl rfl K2.out rfl ?_)
 intro W3 hb3 hk3
 have B3 := Lh hb3
 have K3 := Lh hk3
 clear hb3 hk3
 go_wp2_with fail
 refine bodyPost_ret (results_tokB rfl rfl K3.out rfl) rfl ?_
 exact ⟨rfl, S2.out.but B3.out (by omega) (by omega), B2.out.late (Nat.le_refl _) B3.out⟩
end Go.Proofs.YthmopindibdhnaaGreatDoor
namespace Go.Proofs.YthmopindibdhnaaGreatDoor
open Go.RowKit Go.Shelf
def hl167_ren : Go.Shelf.Ren := ⟨fun | 167 => 43 | 240 => 61 | 276 => 84 | n => n, fun | 0 => 0 | 4 => 4 | 5 => 5 | 9 => 9 | 20 => 20 | 37 => 72 | 70 => 71 | 72 => 74 | 75 => 76 | 80 => 81 | 164 => 97 | n => n, fun | n => n⟩
theorem hl167 : Go.Proofs.Lays.n167 Tryz.prog hl167_ren := {
 mixed := by kernel_rfl
 f167 := Tryz.func43.trans (congrArg some (by kernel_rfl))
 f240 := Tryz.func61.trans (congrArg some (by kernel_rfl))
 f276 := Tryz.func84.trans (congrArg some (by kernel_rfl))
 t0 := Tryz.underlying0
 a0 := Tryz.isAgg0
 z0 := Tryz.sizeOf0
 v0 := Tryz.zeroValue0
 t4 := Tryz.underlying4
 a4 := Tryz.isAgg4
 z4 := Tryz.sizeOf4
 v4 := Tryz.zeroValue4
 t5 := Tryz.underlying5
 a5 := Tryz.isAgg5
 z5 := Tryz.sizeOf5
 v5 := Tryz.zeroValue5
 t9 := Tryz.underlying9
 a9 := Tryz.isAgg9
 z9 := Tryz.sizeOf9
 v9 := Tryz.zeroValue9
 t20 := Tryz.underlying20
 a20 := Tryz.isAgg20
 z20 := Tryz.sizeOf20
 v20 := Tryz.zeroValue20
 t37 := Tryz.underlying72
 a37 := Tryz.isAgg72
 z37 := Tryz.sizeOf72
 v37 := Tryz.zeroValue72
 t70 := Tryz.underlying71
 a70 := Tryz.isAgg71
 z70 := Tryz.sizeOf71
 v70 := Tryz.zeroValue71
 t72 := Tryz.underlying74
 a72 := Tryz.isAgg74
 z72 := Tryz.sizeOf74
 v72 := Tryz.zeroValue74
 t75 := Tryz.underlying76
 a75 := Tryz.isAgg76
 z75 := Tryz.sizeOf76
 v75 := Tryz.zeroValue76
 t164 := Tryz.underlying97
 a164 := Tryz.isAgg97
 z164 := Tryz.sizeOf97
 v164 := Tryz.zeroValue97 }
theorem extra167 : Builder.Extra Tryz.prog hl167_ren where
 sizeBuilder := by kernel_rfl
 liesBuilder := by kernel_rfl
 t5 := Tryz.underlying5
 a5 := Tryz.isAgg5
 z5 := Tryz.sizeOf5
 v5 := Tryz.zeroValue5
 infoByte := by kernel_rfl
 cellsByte := by kernel_rfl
 sizeByte := by kernel_rfl
 neB5 := by decide
theorem bld_byte {B : Nat} {l : List UInt8} (c : UInt8) {w : World} (h : Bld B l w) (hl : l.length + 1 ≤ 140737488355328) (hB : B ≤ w.heap.size) :
  Calls Tryz.prog 43 #[.pointer (some ⟨B, 0, none⟩), .int .u8 (c.toNat : Int)] w fun e w' => e = .returned .nilIface ∧ (Bld B (l ++ [c]) w' ∧ Below B w w' ∧ Oth B w w') :=
 (Any.Builder_WriteByte_k hl167 extra167 B B (Lib.byteCells l) (c.toNat : Int) w h (by rw [Lib.byteCells_length]; exact hl) hB).mono fun _ _ ⟨he, h1, h2, h3⟩ => ⟨he, by
  unfold Bld; rw [Lib.byteCells_append]; exact Or.inr h1, h2, h3⟩
theorem ownsRowF_same {w w' : World} {B : Nat} {e : TypeId} {size : Nat} {v : Value} {n : Nat} {xs : List Value} (h : w.ownsRowF B e size v n xs) (hb : ∀ k, B ≤ k → k < w.heap.size → w'.heap[k]? = w.heap[k]?) : w'.ownsRowF B e size v n xs := by
 obtain ⟨h1, h2⟩ := h
 refine ⟨h1, ?_⟩
 rcases h2 with h2 | ⟨g, h3⟩
 ·exact .inl h2
 ·obtain ⟨cap, cur, fz, e1, e2, e3, e4⟩ := h3
  exact .inr ⟨g, cap, cur, fz, e1, e2, by rw [hb g e2 (Ag e3).1]; exact e3, e4⟩
theorem Bld.but {B P : Nat} {l : List UInt8} {w w' : World} (h : Bld B l w) (hP : P < B) (k : But P w w') : Bld B l w' := by
 have hk : ∀ i, B ≤ i → i < w.heap.size → w'.heap[i]? = w.heap[i]? := fun i h1 h2 => k.block i h2 (fun e => by injection e with e; omega)
 have hat : ∀ p, Lib.BuilderAtF 74 5 B B p (Lib.byteCells l) w → Lib.BuilderAtF 74 5 B B p (Lib.byteCells l) w' := fun p ⟨h1, v, h2, h3, h4⟩ =>
  ⟨h1, v, by rw [hk B (Nat.le_refl _) (Ag h2).1]; exact h2, ownsRowF_same h3 hk, h4⟩
 exact h.elim (fun x => .inl (hat _ x)) (fun x => .inr (hat _ x))
def kindL (l : List UInt8) : Option Int :=
 if l == [113] || l == [39] then some 4 else if l == [113, 113] || l == [34] then some 5 else if l == [113, 119] then some 6 else if l == [109] || l == [47] then some 7 else if l == [115] then some 8 else if l == [116, 114] then some 9 else none
def wordOr (l : List UInt8) : List UInt8 := if wordN l = 0 then l.take 1 else l.take (wordN l)
def quoteL (l : List UInt8) : Option (Int × Nat) := match l[wordN l]? with
 | none => none
 | some c => if delimB c.toNat = true then (kindL (wordOr l)).map fun k => (k, wordN l) else none
def qkV : Option (Int × Nat) → Value
 | none => .tuple #[.int .i64 0, .int .i64 0, .bool false]
 | some (k, n) => .tuple #[.int .i64 k, .int .i64 n, .bool true]
set_option maxRecDepth 100000 in
set_option maxHeartbeats 2000000 in
theorem quoteKind_p (s : ByteArray) (hs : s.size ≤ 140737488351232) (w : World) : Calls Tryz.prog 111 #[.string s] w fun e w' => e = .returned (qkV (quoteL s.data.toList)) ∧ w = w' := by
 obtain ⟨l, hl⟩ : ∃ l, l = s.data.toList := ⟨_, rfl⟩
 have hsz : s.size = l.length := by rw [hl, ← sizeL]
 have HW := Lh (fun w => word_p s hs w)
 rw [← hl] at HW ⊢
 have hle := wordN_le l
 obtain ⟨n, hn⟩ : ∃ n, n = wordN l := ⟨_, rfl⟩
 rw [← hn] at HW hle
 by_cases hlt : n < l.length
 ·have hns : n < s.size := by omega
  have en : s[n] = l[n] := by subst hl; exact byteE s n hns hlt
  have HD := Lh (fun w => delim_p l[n].toNat w)
  have b0 : (n : Int) < (s.size : Int) := by omega
  have b1 : ((n : Int) == (s.size : Int)) = false := by simp; omega
  by_cases hd : delimB l[n].toNat = true
  ·rw [hd] at HD
   have HQ : Hid (quoteL l = (kindL (wordOr l)).map fun k => (k, n)) := Lh (by unfold quoteL; rw [← hn, List.getElem?_eq_getElem hlt]; simp only; rw [if_pos hd])
   obtain ⟨t, ht⟩ : ∃ t : ByteArray, t = if n = 0 then s.extract 0 1 else s.extract 0 n := ⟨_, rfl⟩
   have htl : t.data.toList = wordOr l := by
    rw [ht]; unfold wordOr; rw [← hn]
    split
    ·rw [extractE, ← hl]; simp
    ·rw [extractE, ← hl]; simp
   have HK : Hid (kindL (wordOr l) = if (t.toList == [113] || t.toList == [39]) = true then some 4 else if (t.toList == [113, 113] || t.toList == [34]) = true then some 5 else if (t.toList == [113, 119]) = true then some 6 else if (t.toList == [109] || t.toList == [47]) = true then some 7 else if (t.toList == [115]) = true then some 8 else if (t.toList == [116, 114]) = true then some 9 else none) := Lh (by rw [← htl, ByteArray.toList_eq]; rfl)
   generalize l[n] = x at *
   generalize quoteL l = q at *
   generalize kindL (wordOr l) = kk at *
   have bs : (1 : Int) ≤ (s.size : Int) := by omega
   by_cases h0 : n = 0
   ·subst h0
    have Ht : Hid (s.extract 0 1 = t) := Lh (by rw [ht]; rfl)
    clear hn hle hl hsz hd ht htl hlt
    go_enter Tryz.func111, Tryz.ntmps111
    go_wp2_with fail
    refine (HW.out _).mono ?_
    rintro e w1 ⟨rfl, rfl⟩
    go_wp2_with fail
    refine (HD.out _).mono ?_
    rintro e w1 ⟨rfl, rfl⟩
    have ht' := Ht.out
    go_wp2_with fail
    all_goals
     go_ret3
     refine ⟨?_, rfl⟩
     rw [HQ.out, HK.out]
     first
      | (simp [*, qkV]; done)
      | simp_all
   ·have Ht : Hid (s.extract 0 n = t) := Lh (by rw [ht, if_neg h0])
    have n0 : ((n : Int) == 0) = false := by simp; omega
    have n1 : (n : Int) ≤ (s.size : Int) := by omega
    clear hn hle hl hsz hd ht htl hlt h0
    go_enter Tryz.func111, Tryz.ntmps111
    go_wp2_with fail
    refine (HW.out _).mono ?_
    rintro e w1 ⟨rfl, rfl⟩
    go_wp2_with fail
    refine (HD.out _).mono ?_
    rintro e w1 ⟨rfl, rfl⟩
    have ht' := Ht.out
    go_wp2_with fail
    all_goals
     go_ret3
     refine ⟨?_, rfl⟩
     rw [HQ.out, HK.out]
     first
      | (simp [*, qkV]; done)
      | simp_all
  ·rw [show delimB l[n].toNat = false by simpa using hd] at HD
   have HQ : Hid (quoteL l = none) := Lh (by unfold quoteL; rw [← hn, List.getElem?_eq_getElem hlt]; simp only; rw [if_neg hd])
   generalize l[n] = x at *
   generalize quoteL l = q at *
   clear hn hle hl hsz hd hlt
   go_enter Tryz.func111, Tryz.ntmps111
   go_wp2_with fail
   refine (HW.out _).mono ?_
   rintro e w1 ⟨rfl, rfl⟩
   go_wp2_with fail
   refine (HD.out _).mono ?_
   rintro e w1 ⟨rfl, rfl⟩
   go_wp2_with fail
   go_ret3
   exact ⟨by rw [HQ.out]; rfl, rfl⟩
 ·have hnl : n = s.size := by omega
  have HQ : Hid (quoteL l = none) := Lh (by unfold quoteL; rw [← hn, List.getElem?_eq_none (by omega)])
  generalize quoteL l = q at *
  have n0 : ((n : Int) == (s.size : Int)) = true := by simp; omega
  clear hn hle hl hsz hlt hnl
  go_enter Tryz.func111, Tryz.ntmps111
  go_wp2_with fail
  refine (HW.out _).mono ?_
  rintro e w1 ⟨rfl, rfl⟩
  go_wp2_with fail
  go_ret3
  exact ⟨by rw [HQ.out]; rfl, rfl⟩
end Go.Proofs.YthmopindibdhnaaGreatDoor
