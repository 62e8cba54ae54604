/- CShelf6 LPure LWord LSc LTok LNum LSign -/
import Derived.Shelf.Small.Strs
import Derived.Shelf.Small.Wraps
import Derived.Test.YthmopindibdhnaaDoorProg
import Derived.Test.YthmopindibdhnaaDoorM01
import Derived.Maps.Own
import Derived.Maps.OwnOps
import Derived.Laws.Tables
import Derived.Laws.ResultCell
namespace Go.Proofs
open Go.Shelf
def Tryd.lays137_ren : Go.Shelf.Ren := ⟨fun | 137 => 37 | 217 => 49 | 266 => 63 | n => n, fun | 9 => 9 | 5 => 5 | 3 => 3 | n => n, fun | n => n⟩
theorem Tryd.lays137 : Go.Proofs.Lays.n137 Tryd.prog Tryd.lays137_ren := {
  mixed := by kernel_rfl
  f137 := Tryd.func37.trans (congrArg some (by kernel_rfl))
  f217 := Tryd.func49.trans (congrArg some (by kernel_rfl))
  f266 := Tryd.func63.trans (congrArg some (by kernel_rfl))
  t3 := Tryd.underlying3
  a3 := Tryd.isAgg3
  z3 := Tryd.sizeOf3
  v3 := Tryd.zeroValue3
  t5 := Tryd.underlying5
  a5 := Tryd.isAgg5
  z5 := Tryd.sizeOf5
  v5 := Tryd.zeroValue5
  t9 := Tryd.underlying9
  a9 := Tryd.isAgg9
  z9 := Tryd.sizeOf9
  v9 := Tryd.zeroValue9 }
def Tryd.lays103_ren : Go.Shelf.Ren := ⟨fun | 103 => 52 | 210 => 72 | 206 => 38 | n => n, fun | 9 => 9 | 4 => 4 | 24 => 81 | 3 => 3 | n => n, fun | n => n⟩
theorem Tryd.lays103 : Go.Proofs.Lays.n103 Tryd.prog Tryd.lays103_ren := {
  mixed := by kernel_rfl
  f103 := Tryd.func52.trans (congrArg some (by kernel_rfl))
  f206 := Tryd.func38.trans (congrArg some (by kernel_rfl))
  f210 := Tryd.func72.trans (congrArg some (by kernel_rfl))
  t3 := Tryd.underlying3
  a3 := Tryd.isAgg3
  z3 := Tryd.sizeOf3
  v3 := Tryd.zeroValue3
  t4 := Tryd.underlying4
  a4 := Tryd.isAgg4
  z4 := Tryd.sizeOf4
  v4 := Tryd.zeroValue4
  t9 := Tryd.underlying9
  a9 := Tryd.isAgg9
  z9 := Tryd.sizeOf9
  v9 := Tryd.zeroValue9
  t24 := Tryd.underlying81
  a24 := Tryd.isAgg81
  z24 := Tryd.sizeOf81
  v24 := Tryd.zeroValue81 }
end Go.Proofs
namespace Go.Proofs.YthmopindibdhnaaDoor
open Go.RowKit Go.Shelf
def alphaB (x : Int) : Bool := (decide (97 ≤ x) && decide (x ≤ 122)) || (decide (65 ≤ x) && decide (x ≤ 90)) || x == 95
def digB (x : Int) : Bool := decide (48 ≤ x) && decide (x ≤ 57)
def blkB (x : Int) : Bool := x == 32 || x == 9 || x == 10
def partI (x : Int) : Int := if x = 40 then 41 else if x = 91 then 93 else if x = 123 then 125 else if x = 60 then 62 else x
def partR (x : Int) : Int := if x = 40 then 41 else if x = 91 then 93 else if x = 123 then 125 else if x = 60 then 62 else if x = 47 ∨ x = 33 ∨ x = 124 ∨ x = 126 ∨ x = 39 ∨ x = 34 then x else 0
def delimB (x : Int) : Bool := decide (0 ≤ Lib.indexByte [40, 91, 123, 60, 47, 33, 124, 126, 39, 34] x.toNat.toUInt8)
def sigilB (x : Int) : Bool := decide (0 ≤ Lib.indexByte [36, 64, 37, 38] x.toNat.toUInt8)
def specB (x : Int) : Bool := decide (0 ≤ Lib.indexByte [64, 38, 49, 50, 51, 52, 53, 54, 55, 56, 57] x.toNat.toUInt8)
theorem alpha_p (x : Int) (w : World) : Calls Tryd.prog 42 #[.int .u8 x] w fun e w' => e = .returned (.bool (alphaB x)) ∧ w = w' := by
  have hall : (97 ≤ x ∧ x ≤ 122) ∨ (122 < x) ∨ (65 ≤ x ∧ x ≤ 90) ∨ (x = 95) ∨ (90 < x ∧ x < 97 ∧ x ≠ 95) ∨ (x < 65) := by omega
  rcases hall with h | h | h | h | h | h
  · have E : alphaB x = true := by simp [alphaB]; omega
    rw [E]; clear E
    have t0 : 97 ≤ x := by omega
    have t1 : x ≤ 122 := by omega
    clear h
    go_enter Tryd.func42, Tryd.ntmps42
    go_wp2
    go_ret
    exact ⟨by first | rfl | simp, rfl⟩
  · have E : alphaB x = false := by simp [alphaB]; omega
    rw [E]; clear E
    have t0 : 97 ≤ x := by omega
    have t1 : ¬ x ≤ 122 := by omega
    have t2 : 65 ≤ x := by omega
    have t3 : ¬ x ≤ 90 := by omega
    have t4 : (x == 95) = false := by simp; omega
    clear h
    go_enter Tryd.func42, Tryd.ntmps42
    go_wp2
    go_ret
    exact ⟨by first | rfl | simp, rfl⟩
  · have E : alphaB x = true := by simp [alphaB]; omega
    rw [E]; clear E
    have t0 : ¬ 97 ≤ x := by omega
    have t1 : 65 ≤ x := by omega
    have t2 : x ≤ 90 := by omega
    clear h
    go_enter Tryd.func42, Tryd.ntmps42
    go_wp2
    go_ret
    exact ⟨by first | rfl | simp, rfl⟩
  · have E : alphaB x = true := by simp [alphaB]; omega
    rw [E]; clear E
    have t0 : ¬ 97 ≤ x := by omega
    have t1 : 65 ≤ x := by omega
    have t2 : ¬ x ≤ 90 := by omega
    have t3 : (x == 95) = true := by simp; omega
    clear h
    go_enter Tryd.func42, Tryd.ntmps42
    go_wp2
    go_ret
    exact ⟨by first | rfl | simp, rfl⟩
  · have E : alphaB x = false := by simp [alphaB]; omega
    rw [E]; clear E
    have t0 : ¬ 97 ≤ x := by omega
    have t1 : 65 ≤ x := by omega
    have t2 : ¬ x ≤ 90 := by omega
    have t3 : (x == 95) = false := by simp; omega
    clear h
    go_enter Tryd.func42, Tryd.ntmps42
    go_wp2
    go_ret
    exact ⟨by first | rfl | simp, rfl⟩
  · have E : alphaB x = false := by simp [alphaB]; omega
    rw [E]; clear E
    have t0 : ¬ 97 ≤ x := by omega
    have t1 : ¬ 65 ≤ x := by omega
    have t2 : (x == 95) = false := by simp; omega
    clear h
    go_enter Tryd.func42, Tryd.ntmps42
    go_wp2
    go_ret
    exact ⟨by first | rfl | simp, rfl⟩
theorem dig_p (x : Int) (w : World) : Calls Tryd.prog 44 #[.int .u8 x] w fun e w' => e = .returned (.bool (digB x)) ∧ w = w' := by
  have hall : (48 ≤ x ∧ x ≤ 57) ∨ (57 < x) ∨ (x < 48) := by omega
  rcases hall with h | h | h
  · have E : digB x = true := by simp [digB]; omega
    rw [E]; clear E
    have t0 : 48 ≤ x := by omega
    have t1 : x ≤ 57 := by omega
    clear h
    go_enter Tryd.func44, Tryd.ntmps44
    go_wp2
    go_ret
    exact ⟨by first | rfl | simp, rfl⟩
  · have E : digB x = false := by simp [digB]; omega
    rw [E]; clear E
    have t0 : 48 ≤ x := by omega
    have t1 : ¬ x ≤ 57 := by omega
    clear h
    go_enter Tryd.func44, Tryd.ntmps44
    go_wp2
    go_ret
    exact ⟨by first | rfl | simp, rfl⟩
  · have E : digB x = false := by simp [digB]; omega
    rw [E]; clear E
    have t0 : ¬ 48 ≤ x := by omega
    clear h
    go_enter Tryd.func44, Tryd.ntmps44
    go_wp2
    go_ret
    exact ⟨by first | rfl | simp, rfl⟩
theorem blk_p (x : Int) (w : World) : Calls Tryd.prog 31 #[.int .u8 x] w fun e w' => e = .returned (.bool (blkB x)) ∧ w = w' := by
  have hall : (x = 32) ∨ (x = 9) ∨ (x = 10) ∨ (x ≠ 32 ∧ x ≠ 9 ∧ x ≠ 10) := by omega
  rcases hall with h | h | h | h
  · have E : blkB x = true := by simp [blkB]; try omega
    rw [E]; clear E
    have t0 : (x == 32) = true := by simp; omega
    clear h
    go_enter Tryd.func31, Tryd.ntmps31
    go_wp2
    go_ret
    exact ⟨by first | rfl | simp, rfl⟩
  · have E : blkB x = true := by simp [blkB]; try omega
    rw [E]; clear E
    have t0 : (x == 32) = false := by simp; omega
    have t1 : (x == 9) = true := by simp; omega
    clear h
    go_enter Tryd.func31, Tryd.ntmps31
    go_wp2
    go_ret
    exact ⟨by first | rfl | simp, rfl⟩
  · have E : blkB x = true := by simp [blkB]; try omega
    rw [E]; clear E
    have t0 : (x == 32) = false := by simp; omega
    have t1 : (x == 9) = false := by simp; omega
    have t2 : (x == 10) = true := by simp; omega
    clear h
    go_enter Tryd.func31, Tryd.ntmps31
    go_wp2
    go_ret
    exact ⟨by first | rfl | simp, rfl⟩
  · have E : blkB x = false := by simp [blkB]; try omega
    rw [E]; clear E
    have t0 : (x == 32) = false := by simp; omega
    have t1 : (x == 9) = false := by simp; omega
    have t2 : (x == 10) = false := by simp; omega
    clear h
    go_enter Tryd.func31, Tryd.ntmps31
    go_wp2
    go_ret
    exact ⟨by first | rfl | simp, rfl⟩
theorem part_p (x : Int) (w : World) : Calls Tryd.prog 79 #[.int .u8 x] w fun e w' => e = .returned (.int .u8 (partI x)) ∧ w = w' := by
  have hall : (x = 40) ∨ (x = 91) ∨ (x = 123) ∨ (x = 60) ∨ (x ≠ 40 ∧ x ≠ 91 ∧ x ≠ 123 ∧ x ≠ 60) := by omega
  rcases hall with h | h | h | h | h
  · have E : partI x = 41 := by subst h; rfl
    rw [E]; clear E
    have t0 : (x == 40) = true := by simp; omega
    clear h
    go_enter Tryd.func79, Tryd.ntmps79
    go_wp2
    go_ret
    exact ⟨by first | rfl | simp, rfl⟩
  · have E : partI x = 93 := by subst h; rfl
    rw [E]; clear E
    have t0 : (x == 40) = false := by simp; omega
    have t1 : (x == 91) = true := by simp; omega
    clear h
    go_enter Tryd.func79, Tryd.ntmps79
    go_wp2
    go_ret
    exact ⟨by first | rfl | simp, rfl⟩
  · have E : partI x = 125 := by subst h; rfl
    rw [E]; clear E
    have t0 : (x == 40) = false := by simp; omega
    have t1 : (x == 91) = false := by simp; omega
    have t2 : (x == 123) = true := by simp; omega
    clear h
    go_enter Tryd.func79, Tryd.ntmps79
    go_wp2
    go_ret
    exact ⟨by first | rfl | simp, rfl⟩
  · have E : partI x = 62 := by subst h; rfl
    rw [E]; clear E
    have t0 : (x == 40) = false := by simp; omega
    have t1 : (x == 91) = false := by simp; omega
    have t2 : (x == 123) = false := by simp; omega
    have t3 : (x == 60) = true := by simp; omega
    clear h
    go_enter Tryd.func79, Tryd.ntmps79
    go_wp2
    go_ret
    exact ⟨by first | rfl | simp, rfl⟩
  · have E : partI x = x := by unfold partI; simp [h]
    rw [E]; clear E
    have t0 : (x == 40) = false := by simp; omega
    have t1 : (x == 91) = false := by simp; omega
    have t2 : (x == 123) = false := by simp; omega
    have t3 : (x == 60) = false := by simp; omega
    clear h
    go_enter Tryd.func79, Tryd.ntmps79
    go_wp2
    go_ret
    exact ⟨by first | rfl | simp, rfl⟩
end Go.Proofs.YthmopindibdhnaaDoor
namespace Go.Proofs.YthmopindibdhnaaDoor
open Go.RowKit Go.Shelf
/-- at place n a `::` before a letter -/
def sepAt (l : List UInt8) (n : Nat) : Bool := Lib.hasPrefix (l.drop n) [58, 58] && (match l[n + 2]? with | some e => alphaB e.toNat | none => false)
/-- the end of a word that has come to place n -/
def wordR (l : List UInt8) : Nat → Nat → Nat
  | 0, n => n
  | f + 1, n => match l[n]? with
    | none => n
    | some c => if (alphaB c.toNat || digB c.toNat) = true then wordR l f (n + 1) else if sepAt l n = true then wordR l f (n + 3) else n
def wordN (l : List UInt8) : Nat := match l[0]? with
  | none => 0
  | some c => if alphaB c.toNat = true then wordR l l.length 1 else 0
variable {l : List UInt8} {f n : Nat}
theorem wordR_end (h : l.length ≤ n) : wordR l f n = n := by
  cases f with
  | zero => rfl
  | succ f => rw [wordR, List.getElem?_eq_none h]
theorem wordR_on (h : n < l.length) (hf : l.length ≤ n + f) (hc : (alphaB l[n].toNat || digB l[n].toNat) = true) : ∃ f', l.length ≤ n + 1 + f' ∧ wordR l f n = wordR l f' (n + 1) := by
  cases f with
  | zero => omega
  | succ f => exact ⟨f, by omega, by rw [wordR, List.getElem?_eq_getElem h]; simp only; rw [if_pos hc]⟩
theorem sep_len (h : sepAt l n = true) : n + 2 < l.length := by
  unfold sepAt at h
  by_cases h2 : n + 2 < l.length
  · exact h2
  · rw [List.getElem?_eq_none (by omega)] at h; simp at h
theorem wordR_sep (h : n < l.length) (hf : l.length ≤ n + f) (hc : (alphaB l[n].toNat || digB l[n].toNat) = false) (hs : sepAt l n = true) : ∃ f', l.length ≤ n + 3 + f' ∧ wordR l f n = wordR l f' (n + 3) := by
  have := sep_len hs
  cases f with
  | zero => omega
  | succ f => exact ⟨f, by omega, by rw [wordR, List.getElem?_eq_getElem h]; simp only; rw [if_neg (by rw [hc]; decide), if_pos hs]⟩
theorem wordR_stop (h : n < l.length) (hc : (alphaB l[n].toNat || digB l[n].toNat) = false) (hs : sepAt l n = false) : wordR l f n = n := by
  cases f with
  | zero => rfl
  | succ f => rw [wordR, List.getElem?_eq_getElem h]; simp only; rw [if_neg (by rw [hc]; decide), if_neg (by rw [hs]; decide)]
theorem wordR_le : ∀ (f n : Nat), n ≤ l.length → wordR l f n ≤ l.length ∧ n ≤ wordR l f n
  | 0, n, h => ⟨h, Nat.le_refl _⟩
  | f + 1, n, h => by
    rw [wordR]
    by_cases h1 : n < l.length
    · rw [List.getElem?_eq_getElem h1]
      simp only
      split
      · have := wordR_le f (n + 1) (by omega); omega
      · split
        · rename_i hs
          have h3 := sep_len hs
          have := wordR_le f (n + 3) (by omega); omega
        · exact ⟨h, Nat.le_refl _⟩
    · rw [List.getElem?_eq_none (by omega)]; exact ⟨h, Nat.le_refl _⟩
theorem wordN_le (l : List UInt8) : wordN l ≤ l.length := by
  unfold wordN
  by_cases h : 0 < l.length
  · rw [List.getElem?_eq_getElem h]
    simp only
    split
    · exact (wordR_le _ _ h).1
    · omega
  · rw [List.getElem?_eq_none (by omega)]; exact Nat.zero_le _
def leftTo (m : Nat) : Value → Nat
  | .int _ c => (m - c).toNat
  | _ => 0
theorem wordN_no (h : 0 < l.length) (ha : alphaB l[0].toNat = false) : wordN l = 0 := by
  unfold wordN; rw [List.getElem?_eq_getElem h]; simp only; rw [if_neg (by rw [ha]; decide)]
theorem wordN_yes (h : 0 < l.length) (ha : alphaB l[0].toNat = true) : wordN l = wordR l l.length 1 := by
  unfold wordN; rw [List.getElem?_eq_getElem h]; simp only; rw [if_pos ha]
theorem byteE (s : ByteArray) (n : Nat) (_h : n < s.size) (_h' : n < s.data.toList.length) : s[n] = s.data.toList[n] := by
  rw [Array.getElem_toList]; rfl
set_option maxRecDepth 100000 in
set_option maxHeartbeats 1000000 in
theorem word_p (s : ByteArray) (hs : s.size ≤ 140737488351232) (w : World) : Calls Tryd.prog 58 #[.string s] w fun e w' => e = .returned (.int .i64 (wordN s.data.toList)) ∧ w = w' := by
  have HA := Lib.hid alpha_p
  have HD := Lib.hid dig_p
  have HP := Lib.hid (fun s w => prefix_any s ⟨#[58, 58]⟩ w)
  obtain ⟨l, hl⟩ : ∃ l, l = s.data.toList := ⟨_, rfl⟩
  have hsz : s.size = l.length := by rw [hl, ← sizeL]
  by_cases h0 : l = []
  · have hse : s = ⟨#[]⟩ := by
      rw [h0] at hl
      have h3 : s.data = #[] := by
        have := congrArg List.toArray hl
        simpa using this.symm
      cases s with | mk d => simp only at h3; rw [h3]
    subst hse
    go_enter Tryd.func58, Tryd.ntmps58
    go_wp2
    go_ret
    exact ⟨rfl, rfl⟩
  · have h1 : 0 < l.length := List.length_pos_iff.2 h0
    have hne : (s.toList == []) = false := by
      rw [ByteArray.toList_eq, ← hl]; simpa using h0
    have hb : ∀ n (h : n < s.size) (h' : n < l.length), s[n] = l[n] := fun n h h' => by subst hl; exact byteE s n h h'
    have HB := Lib.hid hb
    by_cases ha : alphaB l[0].toNat = true
    · have HR : Hid (∃ f, l.length ≤ 1 + f ∧ wordN l = wordR l f 1) := Lib.hid ⟨_, by omega, wordN_yes h1 ha⟩
      have hsz1 : 0 < s.size := by omega
      have e0 := hb 0 hsz1 h1
      rw [← hl]
      have hA0 := Lib.hid (fun w => HA.out l[0].toNat w)
      rw [ha] at hA0
      generalize wordN l = R at *
      have Hl := Lib.hid hl
      have Hsz := Lib.hid hsz
      clear hl hsz hb
      go_enter Tryd.func58, Tryd.ntmps58
      go_wp2_with fail
      refine (hA0.out _).mono ?_
      rintro e w1 ⟨rfl, rfl⟩
      clear hsz1 e0 ha h0 hne hA0
      go_wp2_with fail
      go_loopw [3] (fun sc wr => ∃ n f : Nat, sc = .int .i64 (n : Int) ∧ n ≤ l.length ∧ l.length ≤ n + f ∧ w = wr ∧ Hid (R = wordR l f n)) (fun sc _ => leftTo l.length sc)
      case atStart => obtain ⟨f, h2, h3⟩ := HR.out; exact ⟨1, f, rfl, by omega, h2, rfl, Lib.hid h3⟩
      case round =>
        obtain ⟨n, f, rfl, hn, hf, rfl, hR⟩ := hrel
        clear HR
        have b0 : (n : Int) + 3 ≤ 9223372036854775807 := by have := Hsz.out; omega
        have c0 : -9223372036854775808 ≤ (n : Int) + 3 := by omega
        have c1 : -9223372036854775808 ≤ (n : Int) + 1 := by omega
        have c2 : -9223372036854775808 ≤ (n : Int) + 2 := by omega
        have b1 : (n : Int) + 1 ≤ 9223372036854775807 := by omega
        have b2 : (n : Int) + 2 ≤ 9223372036854775807 := by omega
        by_cases hc : n < l.length
        · have hsn : n < s.size := by rw [Hsz.out]; exact hc
          have hc' : (n : Int) < (s.size : Int) := by omega
          have en := HB.out n hsn hc
          have hpx := Lib.hid (fun w => HP.out (s.extract n s.size) w)
          rw [dropE, ← Hl.out] at hpx
          have hA := Lib.hid (fun w => HA.out l[n].toNat w)
          have hD := Lib.hid (fun w => HD.out l[n].toNat w)
          by_cases ha : (alphaB l[n].toNat || digB l[n].toNat) = true
          · have HE : Hid (∃ f', l.length ≤ n + 1 + f' ∧ R = wordR l f' (n + 1)) := Lib.hid (by rw [hR.out]; exact wordR_on hc hf ha)
            generalize alphaB l[n].toNat = a at *
            generalize digB l[n].toNat = d at *
            clear hR HA HD HP HB hpx
            cases a
            · obtain rfl : d = true := by simpa using ha
              clear ha
              go_wp2_with fail
              refine (hA.out _).mono ?_
              rintro e w1 ⟨rfl, rfl⟩
              go_wp2_with fail
              refine (hD.out _).mono ?_
              rintro e w1 ⟨rfl, rfl⟩
              go_wp2
              go_roundw
              case rel => obtain ⟨f', h5, h6⟩ := HE.out; exact ⟨n + 1, f', rfl, by omega, h5, trivial, Lib.hid h6⟩
              case measure => simp only [leftTo]; omega
            · clear ha
              go_wp2_with fail
              refine (hA.out _).mono ?_
              rintro e w1 ⟨rfl, rfl⟩
              go_wp2
              go_roundw
              case rel => obtain ⟨f', h5, h6⟩ := HE.out; exact ⟨n + 1, f', rfl, by omega, h5, trivial, Lib.hid h6⟩
              case measure => simp only [leftTo]; omega
          · have ha' : (alphaB l[n].toNat || digB l[n].toNat) = false := by simpa using ha
            have ha1 : alphaB l[n].toNat = false := by revert ha'; cases alphaB l[n].toNat <;> simp
            have ha2 : digB l[n].toNat = false := by revert ha'; cases alphaB l[n].toNat <;> simp
            rw [ha1] at hA
            rw [ha2] at hD
            by_cases hs : sepAt l n = true
            · have hsl := sep_len hs
              have HE : Hid (∃ f', l.length ≤ n + 3 + f' ∧ R = wordR l f' (n + 3)) := Lib.hid (by rw [hR.out]; exact wordR_sep hc hf ha' hs)
              have hs2 := hs
              unfold sepAt at hs2
              rw [List.getElem?_eq_getElem hsl] at hs2
              simp only [Bool.and_eq_true] at hs2
              obtain ⟨g1, g2⟩ := hs2
              have hsn2 : n + 2 < s.size := by rw [Hsz.out]; exact hsl
              have en2 := HB.out (n + 2) hsn2 hsl
              obtain ⟨m, hm⟩ : ∃ m, m = n + 2 := ⟨_, rfl⟩
              have hm' : (n : Int) + 2 = (m : Int) := by omega
              have hsm : m < s.size := by omega
              have hcm : (m : Int) < (s.size : Int) := by omega
              have bm : (m : Int) ≤ 9223372036854775807 := by omega
              have enm : s[m] = l[n + 2] := by subst hm; exact en2
              have hA2 := Lib.hid (fun w => HA.out l[n + 2].toNat w)
              rw [g1] at hpx
              rw [g2] at hA2
              have Hn2 := Lib.hid hsl
              clear hR HA HD HP HB ha ha' hs g1 g2 ha1 ha2
              clear en2
              generalize l[n + 2] = x2 at *
              generalize l[n] = x0 at *
              clear hsl hc hsn2 hm b2 c2
              go_wp2_with fail
              refine (hA.out _).mono ?_
              rintro e w1 ⟨rfl, rfl⟩
              go_wp2_with fail
              refine (hD.out _).mono ?_
              rintro e w1 ⟨rfl, rfl⟩
              go_wp2_with fail
              refine (hpx.out _).mono ?_
              rintro e w1 ⟨rfl, rfl⟩
              go_wp2_with fail
              refine (hA2.out _).mono ?_
              rintro e w1 ⟨rfl, rfl⟩
              go_wp2
              go_roundw
              case rel => obtain ⟨f', h5, h6⟩ := HE.out; have := Hn2.out; exact ⟨n + 3, f', rfl, by omega, h5, trivial, Lib.hid h6⟩
              case measure => have := Hn2.out; simp only [leftTo]; omega
            · have hs' : sepAt l n = false := by simpa using hs
              have E : Hid (R = n) := Lib.hid (by rw [hR.out, wordR_stop hc ha' hs'])
              unfold sepAt at hs'
              by_cases g1 : Lib.hasPrefix (l.drop n) [58, 58] = true
              · rw [g1] at hpx hs'
                by_cases hsl : n + 2 < l.length
                · rw [List.getElem?_eq_getElem hsl] at hs'
                  simp only [Bool.true_and] at hs'
                  have hsn2 : n + 2 < s.size := by rw [Hsz.out]; exact hsl
                  have en2 := HB.out (n + 2) hsn2 hsl
                  obtain ⟨m, hm⟩ : ∃ m, m = n + 2 := ⟨_, rfl⟩
                  have hm' : (n : Int) + 2 = (m : Int) := by omega
                  have hsm : m < s.size := by omega
                  have hcm : (m : Int) < (s.size : Int) := by omega
                  have bm : (m : Int) ≤ 9223372036854775807 := by omega
                  have enm : s[m] = l[n + 2] := by subst hm; exact en2
                  have hA2 := Lib.hid (fun w => HA.out l[n + 2].toNat w)
                  rw [hs'] at hA2
                  clear hR HA HD HP HB ha ha' hs g1 ha1 ha2 hs'
                  clear en2
                  generalize l[n + 2] = x2 at *
                  generalize l[n] = x0 at *
                  clear hsl hc hsn2 hm b2 c2
                  go_wp2_with fail
                  refine (hA.out _).mono ?_
                  rintro e w1 ⟨rfl, rfl⟩
                  go_wp2_with fail
                  refine (hD.out _).mono ?_
                  rintro e w1 ⟨rfl, rfl⟩
                  go_wp2_with fail
                  refine (hpx.out _).mono ?_
                  rintro e w1 ⟨rfl, rfl⟩
                  go_wp2_with fail
                  refine (hA2.out _).mono ?_
                  rintro e w1 ⟨rfl, rfl⟩
                  go_wp2
                  go_ret
                  exact ⟨by rw [E.out]; rfl, rfl⟩
                · have hc2 : decide ((n : Int) + 2 < (s.size : Int)) = false := by rw [Hsz.out]; simp; omega
                  clear hR HA HD HP HB ha ha' hs g1 ha1 ha2 hs' hsl
                  go_wp2_with fail
                  refine (hA.out _).mono ?_
                  rintro e w1 ⟨rfl, rfl⟩
                  go_wp2_with fail
                  refine (hD.out _).mono ?_
                  rintro e w1 ⟨rfl, rfl⟩
                  go_wp2_with fail
                  refine (hpx.out _).mono ?_
                  rintro e w1 ⟨rfl, rfl⟩
                  go_wp2
                  go_ret
                  exact ⟨by rw [E.out]; rfl, rfl⟩
              · rw [show Lib.hasPrefix (l.drop n) [58, 58] = false by simpa using g1] at hpx
                clear hR HA HD HP HB ha ha' hs g1 ha1 ha2 hs'
                go_wp2_with fail
                refine (hA.out _).mono ?_
                rintro e w1 ⟨rfl, rfl⟩
                go_wp2_with fail
                refine (hD.out _).mono ?_
                rintro e w1 ⟨rfl, rfl⟩
                go_wp2_with fail
                refine (hpx.out _).mono ?_
                rintro e w1 ⟨rfl, rfl⟩
                go_wp2
                go_ret
                exact ⟨by rw [E.out]; rfl, rfl⟩
        · have hc' : ¬ (n : Int) < (s.size : Int) := by rw [Hsz.out]; omega
          have E : Hid (R = n) := Lib.hid (by rw [hR.out, wordR_end (by omega)])
          clear hR HA HD HP HB
          go_wp2
          go_ret
          exact ⟨by rw [E.out]; rfl, rfl⟩
    · have hsz1 : 0 < s.size := by omega
      have e0 := hb 0 hsz1 h1
      have ha' : alphaB l[0].toNat = false := by simpa using ha
      rw [← hl, wordN_no h1 ha']
      have hA := Lib.hid (fun w => HA.out l[0].toNat w)
      rw [ha'] at hA
      clear HA HD HP HB hb ha hsz hl
      go_enter Tryd.func58, Tryd.ntmps58
      go_wp2_with fail
      refine (hA.out _).mono ?_
      rintro e w1 ⟨rfl, rfl⟩
      go_wp2
      go_ret
      exact ⟨rfl, rfl⟩
end Go.Proofs.YthmopindibdhnaaDoor
namespace Go.Proofs.YthmopindibdhnaaDoor
open Go.RowKit Go.Shelf
/-- the scanner in block P, its map in block M -/
structure Sc (w : World) (P M : Nat) (s : ByteArray) (at_ en : Nat) (tm : Bool) (tv bv ov : Value) : Prop where
  blk : w.heap[P]? = some (.cells #[.string s, .int .i64 at_, .int .i64 en, .bool tm, tv, bv, ov, .map (some M)] 40 (0, 0))
  mp : w.heap[M]? = some (.map #[] 0)
  ne : M ≠ P
/-- all blocks but P stand as they stood -/
abbrev But (P : Nat) (w w' : World) : Prop := w.grownBy w' (some P)
theorem But.refl (P : Nat) (w : World) : But P w w := ⟨rfl, rfl, rfl, Nat.le_refl _, fun _ _ _ => rfl⟩
theorem But.trans {P : Nat} {a b c : World} (h : But P a b) (k : But P b c) : But P a c :=
  ⟨k.os.trans h.os, k.tape.trans h.tape, k.output.trans h.output, Nat.le_trans h.size k.size, fun i hi hn => (k.block i (Nat.lt_of_lt_of_le hi h.size) hn).trans (h.block i hi hn)⟩
theorem But.of_gr {P : Nat} {a b : World} (h : Gr a b) : But P a b := ⟨h.os, h.tape, h.output, h.size, fun k hk _ => h.block k hk⟩
theorem But.set {P : Nat} {w : World} (j : Nat) (v : Value) : But P w (w.setCell ⟨P, j, none⟩ v) :=
  ⟨rfl, rfl, rfl, by simp [World.setCell], fun k _ hn => by
    have : P ≠ k := fun e => hn (by rw [e])
    simp [World.setCell, Array.getElem?_modify, this]⟩
variable {w : World} {P M : Nat} {s : ByteArray} {at_ en : Nat} {tm : Bool} {tv bv ov : Value}
theorem Sc.lt (h : Sc w P M s at_ en tm tv bv ov) : P < w.heap.size ∧ M < w.heap.size := ⟨(Array.getElem?_eq_some_iff.1 h.blk).1, (Array.getElem?_eq_some_iff.1 h.mp).1⟩
theorem Sc.cells (h : Sc w P M s at_ en tm tv bv ov) : w.cell? ⟨P, 0, none⟩ = some (.string s) ∧ w.cell? ⟨P, 1, none⟩ = some (.int .i64 at_) ∧ w.cell? ⟨P, 2, none⟩ = some (.int .i64 en) ∧ w.cell? ⟨P, 3, none⟩ = some (.bool tm) ∧
    w.cell? ⟨P, 4, none⟩ = some tv ∧ w.cell? ⟨P, 5, none⟩ = some bv ∧ w.cell? ⟨P, 6, none⟩ = some ov ∧ w.cell? ⟨P, 7, none⟩ = some (.map (some M)) ∧ ∀ j, w.frozen? ⟨P, j, none⟩ = false := by
  simp [World.cell?, World.frozen?, h.blk]
theorem Sc.gr {w' : World} (h : Sc w P M s at_ en tm tv bv ov) (g : Gr w w') : Sc w' P M s at_ en tm tv bv ov :=
  ⟨by rw [g.block _ h.lt.1]; exact h.blk, by rw [g.block _ h.lt.2]; exact h.mp, h.ne⟩
theorem Sc.setAt (h : Sc w P M s at_ en tm tv bv ov) (x : Nat) : Sc (w.setCell ⟨P, 1, none⟩ (.int .i64 x)) P M s x en tm tv bv ov :=
  ⟨by simp [World.setCell, Array.getElem?_modify, h.blk], by simp [World.setCell, Array.getElem?_modify, Ne.symm h.ne, h.mp], h.ne⟩
theorem Sc.setEn (h : Sc w P M s at_ en tm tv bv ov) (x : Nat) : Sc (w.setCell ⟨P, 2, none⟩ (.int .i64 x)) P M s at_ x tm tv bv ov :=
  ⟨by simp [World.setCell, Array.getElem?_modify, h.blk], by simp [World.setCell, Array.getElem?_modify, Ne.symm h.ne, h.mp], h.ne⟩
theorem Sc.setTm (h : Sc w P M s at_ en tm tv bv ov) (x : Bool) : Sc (w.setCell ⟨P, 3, none⟩ (.bool x)) P M s at_ en x tv bv ov :=
  ⟨by simp [World.setCell, Array.getElem?_modify, h.blk], by simp [World.setCell, Array.getElem?_modify, Ne.symm h.ne, h.mp], h.ne⟩
theorem Sc.setTv (h : Sc w P M s at_ en tm tv bv ov) (x : Value) : Sc (w.setCell ⟨P, 4, none⟩ x) P M s at_ en tm x bv ov :=
  ⟨by simp [World.setCell, Array.getElem?_modify, h.blk], by simp [World.setCell, Array.getElem?_modify, Ne.symm h.ne, h.mp], h.ne⟩
theorem Sc.setBv (h : Sc w P M s at_ en tm tv bv ov) (x : Value) : Sc (w.setCell ⟨P, 5, none⟩ x) P M s at_ en tm tv x ov :=
  ⟨by simp [World.setCell, Array.getElem?_modify, h.blk], by simp [World.setCell, Array.getElem?_modify, Ne.symm h.ne, h.mp], h.ne⟩
theorem run_checkKeyI (m : Bool) (x : Int) (w : World) : (Instr.checkKey m 10000 3 (.int .i64 x)).run Tryd.prog w = .ok () w :=
  MapKept.run_checkKey Tryd.underlying3 (by simp [MapKept.IsKey]) m 9999
/-- the empty map has no place -/
theorem look_none {W : World} (h : W.heap[M]? = some (.map #[] 0)) (x : Int) : (Instr.lookup 38 (.map (some M)) (.int .i64 x) true).run Tryd.prog W = .ok (.tuple #[.int .i64 0, .bool false]) W := by
  have hf : Instr.findNow (.int .i64) (.int .i64 x) [] 0 = some none := rfl
  have hz : (zeroValue 3).run Tryd.prog W = .ok (.int .i64 0) W := by kernel_rfl
  simp [Instr.lookup, run_underlying Tryd.underlying38, run_checkKeyI, MapKept.run_getObj_map h, MapKept.run_findKey Tryd.underlying3 hf, Result.andThen, hz]
set_option maxRecDepth 100000 in
theorem step_p (h : Sc w P M s at_ en tm tv bv ov) (hb : at_ ≤ 140737488351232) : Calls Tryd.prog 32 #[.pointer (some ⟨P, 0, none⟩)] w fun e w' => e = .returned (.tuple #[]) ∧ Sc w' P M s (at_ + 1) en tm tv bv ov ∧ But P w w' := by
  obtain ⟨c0, c1, c2, c3, c4, c5, c6, c7, cf⟩ := h.cells
  have H := Lib.hid h
  have hlk : ∀ q : Nat, (Instr.lookup 38 (.map (some M)) (.int .i64 (at_ : Int)) true).run Tryd.prog (w.drewN q) = .ok (.tuple #[.int .i64 0, .bool false]) (w.drewN q) := fun q => look_none (W := w.drewN q) h.mp _
  have b0 : (at_ : Int) + 1 ≤ 9223372036854775807 := by omega
  have b1 : -9223372036854775808 ≤ (at_ : Int) + 1 := by omega
  clear h
  go_enter Tryd.func32, Tryd.ntmps32
  go_wp2_with fail
  go_quiet (fail)
  go_wp2_with fail
  go_end0
  exact ⟨rfl, (H.out.gr ((Gr.refl w).drewN _)).setAt (at_ + 1), (But.of_gr ((Gr.refl w).drewN _)).trans (But.set 1 _)⟩
theorem extractE (s : ByteArray) (a b : Nat) : (s.extract a b).data.toList = (s.data.toList.drop a).take (b - a) := by simp [List.take_drop]
set_option maxRecDepth 100000 in
theorem take_p (h : Sc w P M s at_ en tm tv bv ov) (n : Nat) (hn : at_ + n ≤ s.size) (hs : s.size ≤ 140737488351232) :
    Calls Tryd.prog 59 #[.pointer (some ⟨P, 0, none⟩), .int .i64 n] w fun e w' => e = .returned (.string (s.extract at_ (at_ + n))) ∧ Sc w' P M s (at_ + n) en tm tv bv ov ∧ But P w w' := by
  obtain ⟨c0, c1, c2, c3, c4, c5, c6, c7, cf⟩ := h.cells
  have H := Lib.hid h
  obtain ⟨m, hm⟩ : ∃ m, m = at_ + n := ⟨_, rfl⟩
  have hm' : (at_ : Int) + (n : Int) = (m : Int) := by omega
  have b0 : (m : Int) ≤ 9223372036854775807 := by omega
  have b1 : (m : Int) ≤ (s.size : Int) := by omega
  have b2 : (at_ : Int) ≤ (m : Int) := by omega
  rw [← hm]
  clear h hm hn
  go_enter Tryd.func59, Tryd.ntmps59
  go_wp2_with fail
  go_quiet (fail)
  go_wp2_with fail
  go_ret
  exact ⟨rfl, (H.out.gr ((Gr.refl w).drewN _)).setAt m, (But.of_gr ((Gr.refl w).drewN _)).trans (But.set 1 _)⟩
end Go.Proofs.YthmopindibdhnaaDoor
namespace Go.Proofs.YthmopindibdhnaaDoor
open Go.RowKit Go.Shelf
/-- a token -/
structure Tok where
  kind : Int
  place : Int
  text : ByteArray
  repl : ByteArray
  more : ByteArray
  opn : Int
def Tok.cells (t : Tok) : List Value := [.int .i64 t.kind, .int .i64 t.place, .string t.text, .string t.repl, .string t.more, .int .i64 t.opn]
def Tok.val (t : Tok) : Value := .agg t.cells.toArray
def tok (k : Int) (t : ByteArray) : Tok := ⟨k, 0, t, ⟨#[]⟩, ⟨#[]⟩, 0⟩
theorem tokInfo : (Tryd.prog.info? 32).map (·.size) = some 6 := by kernel_rfl
theorem Tok.one (t : Tok) : t.cells.toArray.all (·.oneCell') = true := by simp [Tok.cells, Value.oneCell']
variable {w : World} {P M : Nat} {s : ByteArray} {at_ en : Nat} {tm : Bool} {tv bv ov : Value}
theorem But.late {w W W' : World} {g : Nat} (h : But P w W) (hg : w.heap.size ≤ g) (k : But g W W') : But P w W' :=
  ⟨k.os.trans h.os, k.tape.trans h.tape, k.output.trans h.output, Nat.le_trans h.size k.size, fun i hi hn => (k.block i (Nat.lt_of_lt_of_le hi h.size) (fun e => by injection e with e; omega)).trans (h.block i hi hn)⟩
theorem Sc.but {W W' : World} {g : Nat} (h : Sc W P M s at_ en tm tv bv ov) (k : But g W W') (h1 : P ≠ g) (h2 : M ≠ g) : Sc W' P M s at_ en tm tv bv ov :=
  ⟨by rw [k.block _ h.lt.1 (fun e => h1 (by injection e))]; exact h.blk, by rw [k.block _ h.lt.2 (fun e => h2 (by injection e))]; exact h.mp, h.ne⟩
theorem But.row {W : World} {g : Nat} {c : Array Value} {t : TypeId} {A : Array Value} (h : W.heap[g]? = some (.cells c t (0, 0))) : But g W (W.setRow g A) ∧ (W.setRow g A).heap[g]? = some (.cells A t (0, 0)) := by
  refine ⟨⟨rfl, rfl, rfl, by simp [World.setRow], fun k _ hn => ?_⟩, by simp [World.setRow, Array.getElem?_modify, h]⟩
  have : g ≠ k := fun e => hn (by rw [e])
  simp [World.setRow, Array.getElem?_modify, this]
/-- the store of a whole token -/
theorem wpList_store_tok {W : World} {ops : Array Oper} {rest : List Oper} {o : Oper} {a : Act} {Q : Exit → Act → World → Prop}
    (hg : o.guard = none) (x v : Operand) (hop : o.op = Op.store 32 x v) {g : Nat} {c : Array Value} {t : Tok} (hx : a.eval x = .pointer (some ⟨g, 0, none⟩)) (hv : a.eval v = t.val)
    (hb : W.heap[g]? = some (.cells c 32 (0, 0))) (hc : c.size = 6)
    (hK : ∀ W', But g W W' → W'.heap[g]? = some (.cells t.cells.toArray 32 (0, 0)) → wpList Tryd.prog ops Q rest (a.put o.dst undef) W') : wpList Tryd.prog ops Q (o :: rest) a W := by
  refine wpList_plain hg fun K' hK' => ?_
  have hrun : (Instr.storeAt 32 (.pointer (some ⟨g, 0, none⟩)) t.val).run Tryd.prog W = .ok () (W.setRow g t.cells.toArray) := by
    simp only [Instr.storeAt, Instr.sureAddr, Sem.run_bind, Sem.run_pure, Result.andThen, Tok.val]
    exact run_storeVar_row W g 32 32 c t.cells.toArray hb (by rw [tokInfo]; rfl) (by rw [hc]; rfl) t.one
  unfold Oper.wp
  simp [execOp, hop, hx, hv, hrun, Result.andThen]
  exact hK' _ _ (hK _ (But.row hb).1 (But.row hb).2)
/-- the result that lies in a cell -/
theorem results_tok {fn : Func} {p : Tmp} (h : fn.results = #[.cell p 32]) {tmps : Array Value} {W : World} {g : Nat} {t : Tok} (hp : tmps.getD p undef = .pointer (some ⟨g, 0, none⟩))
    (hg : W.heap[g]? = some (.cells t.cells.toArray 32 (0, 0))) : (results fn tmps).run Tryd.prog W = .ok t.val W :=
  results_cell_row h tmps W g 32 t.cells.toArray (0, 0) _ hp hg Tryd.underlying32 rfl (by rw [tokInfo]; rfl)
/-- the zero token -/
def zTok : Obj := .cells #[.int .i64 0, .int .i64 0, .string ⟨#[]⟩, .string ⟨#[]⟩, .string ⟨#[]⟩, .int .i64 0] 32
set_option maxRecDepth 100000 in
theorem word_m (h : Sc w P M s at_ en tm tv bv ov) (hat : at_ ≤ s.size) (n : Nat) (hw : wordN (s.data.toList.drop at_) = n) (hn : n ≤ 12) (hs : s.size ≤ 140737488351232) :
    Calls Tryd.prog 43 #[.pointer (some ⟨P, 0, none⟩)] w fun e w' => e = .returned (tok 0 (s.extract at_ (at_ + n))).val ∧ Sc w' P M s (at_ + n) en tm tv bv ov ∧ But P w w' := by
  obtain ⟨c0, c1, c2, c3, c4, c5, c6, c7, cf⟩ := h.cells
  have H := Lib.hid h
  have hln := wordN_le (s.data.toList.drop at_)
  rw [hw, List.length_drop, sizeL] at hln
  have HW := Lib.hid (fun w => word_p (s.extract at_ s.size) (by simp [ByteArray.size_extract]; omega) w)
  rw [dropE, hw] at HW
  have HT := Lib.hid (fun (W : World) (hS : Sc W P M s at_ en tm tv bv ov) => take_p hS n (by omega) hs)
  have b0 : (at_ : Int) ≤ (s.size : Int) := by omega
  have b1 : ¬ (n : Int) > 12 := by omega
  clear h hw hln hat
  go_enter Tryd.func43, Tryd.ntmps43
  go_wp2_with fail
  generalize hW : w.alloc (.cells #[.int .i64 0, .int .i64 0, .string ⟨#[]⟩, .string ⟨#[]⟩, .string ⟨#[]⟩, .int .i64 0] 32) = W1
  have G1 : Hid (Gr w W1) := Lib.hid (by rw [← hW]; exact (Gr.refl w).alloc _)
  have K1 : Hid (W1.heap[w.heap.size]? = some (.cells #[.int .i64 0, .int .i64 0, .string ⟨#[]⟩, .string ⟨#[]⟩, .string ⟨#[]⟩, .int .i64 0] 32 (0, 0))) := Lib.hid (by rw [← hW]; exact heap_alloc_new w _)
  clear hW c0 c1 c2 c3 c4 c5 c6 c7 cf
  obtain ⟨c0, c1, c2, c3, c4, c5, c6, c7, cf⟩ := (H.out.gr G1.out).cells
  go_quiet ((go_at_call 58; exact quiet_at (HW.out _)))
  go_wp2_with fail
  refine (HT.out _ (H.out.gr (G1.out.drewN _))).mono ?_
  rintro e w2 ⟨rfl, hS2, hb2⟩
  have hP : P < w.heap.size := H.out.lt.1
  have hM : M < w.heap.size := H.out.lt.2
  have K2 := Lib.hid ((hb2.block _ (Array.getElem?_eq_some_iff.1 K1.out).1 (by simp; omega)).trans K1.out)
  have B2 := Lib.hid ((But.of_gr (G1.out.drewN _)).trans hb2)
  have S2 := Lib.hid hS2
  clear hS2 hb2 K1 HT HW c0 c1 c2 c3 c4 c5 c6 c7 cf
  go_wp2_with (refine wpList_store_tok rfl (.tmp 2) (.tmp 24) rfl (t := tok 0 (s.extract at_ (at_ + n))) rfl rfl K2.out rfl ?_)
  intro W3 hb3 hk3
  have B3 := Lib.hid hb3
  have K3 := Lib.hid hk3
  clear hb3 hk3
  go_wp2_with fail
  refine bodyPost_ret (results_tok rfl rfl K3.out) rfl ?_
  exact ⟨rfl, S2.out.but B3.out (by omega) (by omega), B2.out.late (Nat.le_refl _) B3.out⟩
end Go.Proofs.YthmopindibdhnaaDoor
namespace Go.Proofs.YthmopindibdhnaaDoor
open Go.RowKit Go.Shelf
/-- the end of digits that have come to place n -/
def digR (l : List UInt8) : Nat → Nat → Nat
  | 0, n => n
  | f + 1, n => match l[n]? with
    | none => n
    | some c => if digB c.toNat = true then digR l f (n + 1) else n
variable {l : List UInt8} {f n : Nat}
theorem digR_end (h : l.length ≤ n) : digR l f n = n := by
  cases f with
  | zero => rfl
  | succ f => rw [digR, List.getElem?_eq_none h]
theorem digR_on (h : n < l.length) (hf : l.length ≤ n + f) (hc : digB l[n].toNat = true) : ∃ f', l.length ≤ n + 1 + f' ∧ digR l f n = digR l f' (n + 1) := by
  cases f with
  | zero => omega
  | succ f => exact ⟨f, by omega, by rw [digR, List.getElem?_eq_getElem h]; simp only; rw [if_pos hc]⟩
theorem digR_stop (h : n < l.length) (hc : digB l[n].toNat = false) : digR l f n = n := by
  cases f with
  | zero => rfl
  | succ f => rw [digR, List.getElem?_eq_getElem h]; simp only; rw [if_neg (by rw [hc]; decide)]
variable {w : World} {P M : Nat} {s : ByteArray} {at_ en : Nat} {tm : Bool} {tv bv ov : Value}
set_option maxRecDepth 100000 in
set_option maxHeartbeats 1000000 in
theorem number_m (h : Sc w P M s at_ en tm tv bv ov) (hat : at_ < s.size) (hs : s.size ≤ 140737488351232) :
    Calls Tryd.prog 45 #[.pointer (some ⟨P, 0, none⟩)] w fun e w' => e = .returned (tok 1 (s.extract at_ (digR s.data.toList s.size (at_ + 1)))).val ∧ Sc w' P M s (digR s.data.toList s.size (at_ + 1)) en tm tv bv ov ∧ But P w w' := by
  have H := Lib.hid h
  have HD := Lib.hid dig_p
  obtain ⟨l, hl⟩ : ∃ l, l = s.data.toList := ⟨_, rfl⟩
  have hsz : s.size = l.length := by rw [hl, ← sizeL]
  have HB := Lib.hid (fun n (h : n < s.size) (h' : n < l.length) => (show s[n] = l[n] by subst hl; exact byteE s n h h'))
  have HR : Hid (∃ f, l.length ≤ at_ + 1 + f ∧ digR l s.size (at_ + 1) = digR l f (at_ + 1)) := Lib.hid ⟨s.size, by omega, rfl⟩
  rw [← hl]
  have HT := Lib.hid (fun (W : World) (hS : Sc W P M s at_ en tm tv bv ov) (n : Nat) (hn : at_ + n ≤ s.size) => take_p hS n hn hs)
  generalize digR l s.size (at_ + 1) = R at *
  have Hsz := Lib.hid hsz
  have hat' : (at_ : Int) < (s.size : Int) := by omega
  have hP : P < w.heap.size := h.lt.1
  have hM : M < w.heap.size := h.lt.2
  clear h hl hsz
  go_enter Tryd.func45, Tryd.ntmps45
  go_wp2_with fail
  generalize hW : w.alloc (.cells #[.int .i64 0, .int .i64 0, .string ⟨#[]⟩, .string ⟨#[]⟩, .string ⟨#[]⟩, .int .i64 0] 32) = W1
  have G1 : Hid (Gr w W1) := Lib.hid (by rw [← hW]; exact (Gr.refl w).alloc _)
  have K1 : Hid (W1.heap[w.heap.size]? = some (.cells #[.int .i64 0, .int .i64 0, .string ⟨#[]⟩, .string ⟨#[]⟩, .string ⟨#[]⟩, .int .i64 0] 32 (0, 0))) := Lib.hid (by rw [← hW]; exact heap_alloc_new w _)
  clear hW
  go_loopw [3] (fun sc wr => ∃ k f : Nat, sc = .int .i64 (k : Int) ∧ at_ + k ≤ s.size ∧ l.length ≤ at_ + k + f ∧ Gr W1 wr ∧ Hid (R = digR l f (at_ + k))) (fun sc _ => leftTo s.size sc)
  case atStart => obtain ⟨f, h2, h3⟩ := HR.out; exact ⟨1, f, rfl, by omega, h2, Gr.refl _, Lib.hid h3⟩
  case round =>
    obtain ⟨k, f, rfl, hk, hf, hg, hR⟩ := hrel
    clear HR
    have Hg := Lib.hid hg
    clear hg
    obtain ⟨c0, c1, c2, c3, c4, c5, c6, c7, cf⟩ := ((H.out.gr G1.out).gr Hg.out).cells
    obtain ⟨m, hm⟩ : ∃ m, m = at_ + k := ⟨_, rfl⟩
    have hm' : (at_ : Int) + (k : Int) = (m : Int) := by omega
    have bm : (m : Int) ≤ 9223372036854775807 := by omega
    have bk : (k : Int) + 1 ≤ 9223372036854775807 := by omega
    have bk2 : -9223372036854775808 ≤ (k : Int) + 1 := by omega
    have hwm : IntKind.i64.wrap (m : Int) = (m : Int) := by rw [IntKind.wrap_i64]; omega
    rw [← hm] at hR hf
    have Hm := Lib.hid hm
    by_cases hc : m < l.length
    · have hsn : m < s.size := by rw [Hsz.out]; exact hc
      have hc' : (m : Int) < (s.size : Int) := by omega
      have en_ := HB.out m hsn hc
      have hD := Lib.hid (fun w => HD.out l[m].toNat w)
      by_cases hd : digB l[m].toNat = true
      · have HE : Hid (∃ f', l.length ≤ m + 1 + f' ∧ R = digR l f' (m + 1)) := Lib.hid (by rw [hR.out]; exact digR_on hc hf hd)
        rw [hd] at hD
        generalize l[m] = x at *
        have Hf := Lib.hid hsn
        clear hd hR HB HD hf hk hm
        go_wp2_with fail
        go_quiet ((go_at_call 44; exact quiet_at (hD.out _)))
        go_wp2_with fail
        go_roundw
        case rel =>
          obtain ⟨f', h5, h6⟩ := HE.out
          have := Hm.out
          have e : at_ + (k + 1) = m + 1 := by omega
          exact ⟨k + 1, f', rfl, by omega, by omega, Hg.out.drewN _, Lib.hid (by rw [e]; exact h6)⟩
        case measure => have := Hm.out; simp only [leftTo]; omega
      · have hd' : digB l[m].toNat = false := by simpa using hd
        have E : Hid (R = m) := Lib.hid (by rw [hR.out, digR_stop hc hd'])
        rw [hd'] at hD
        generalize l[m] = x at *
        clear hd hd' hR HB HD hf hm hc
        go_wp2_with fail
        go_quiet ((go_at_call 44; exact quiet_at (hD.out _)))
        go_wp2_with fail
        refine (HT.out _ (((H.out.gr G1.out).gr Hg.out).gr ((Gr.refl wr).drewN _)) k (by omega)).mono ?_
        rintro e w2 ⟨rfl, hS2, hb2⟩
        have K2 := Lib.hid ((hb2.block _ (Nat.lt_of_lt_of_le (Array.getElem?_eq_some_iff.1 K1.out).1 (Gr.size (Hg.out.drewN _))) (by simp; omega)).trans (((Hg.out.drewN _).block _ (Array.getElem?_eq_some_iff.1 K1.out).1).trans K1.out))
        have B2 := Lib.hid ((But.of_gr (G1.out.trans (Hg.out.drewN _))).trans hb2)
        have S2 := Lib.hid hS2
        clear hS2 hb2 HT c0 c1 c2 c3 c4 c5 c6 c7 cf
        rw [← Hm.out] at S2 ⊢
        go_wp2_with (refine wpList_store_tok rfl (.tmp 2) (.tmp 35) rfl (t := tok 1 (s.extract at_ m)) rfl rfl K2.out rfl ?_)
        intro W3 hb3 hk3
        have B3 := Lib.hid hb3
        have K3 := Lib.hid hk3
        clear hb3 hk3
        go_wp2_with fail
        refine bodyPost_ret (results_tok rfl rfl K3.out) rfl ?_
        rw [E.out]
        exact ⟨rfl, S2.out.but B3.out (by omega) (by omega), B2.out.late (Nat.le_refl _) B3.out⟩
    · have E : Hid (R = m) := Lib.hid (by rw [hR.out, digR_end (by omega)])
      have hc' : decide (m < s.size) = false := by rw [Hsz.out]; simp; omega
      clear hR HB HD hf hm hc
      go_wp2_with fail
      go_quiet (fail)
      go_wp2_with fail
      refine (HT.out _ (((H.out.gr G1.out).gr Hg.out).gr ((Gr.refl wr).drewN _)) k (by omega)).mono ?_
      rintro e w2 ⟨rfl, hS2, hb2⟩
      have K2 := Lib.hid ((hb2.block _ (Nat.lt_of_lt_of_le (Array.getElem?_eq_some_iff.1 K1.out).1 (Gr.size (Hg.out.drewN _))) (by simp; omega)).trans (((Hg.out.drewN _).block _ (Array.getElem?_eq_some_iff.1 K1.out).1).trans K1.out))
      have B2 := Lib.hid ((But.of_gr (G1.out.trans (Hg.out.drewN _))).trans hb2)
      have S2 := Lib.hid hS2
      clear hS2 hb2 HT c0 c1 c2 c3 c4 c5 c6 c7 cf
      rw [← Hm.out] at S2 ⊢
      go_wp2_with (refine wpList_store_tok rfl (.tmp 2) (.tmp 35) rfl (t := tok 1 (s.extract at_ m)) rfl rfl K2.out rfl ?_)
      intro W3 hb3 hk3
      have B3 := Lib.hid hb3
      have K3 := Lib.hid hk3
      clear hb3 hk3
      go_wp2_with fail
      refine bodyPost_ret (results_tok rfl rfl K3.out) rfl ?_
      rw [E.out]
      exact ⟨rfl, S2.out.but B3.out (by omega) (by omega), B2.out.late (Nat.le_refl _) B3.out⟩
end Go.Proofs.YthmopindibdhnaaDoor
namespace Go.Proofs.YthmopindibdhnaaDoor
open Go.RowKit Go.Shelf
def signsL : List (List UInt8) := [[40], [41], [91], [93], [123], [125], [44], [59], [58], [63], [92], [61], [61, 61], [33, 61], [60], [62], [60, 61], [62, 61], [60, 61, 62], [43], [45], [42], [47], [37], [46], [46, 46], [43, 43], [45, 45], [43, 61], [45, 61], [42, 61], [47, 61], [37, 61], [46, 61], [124, 124, 61], [38, 38, 61], [47, 47, 61], [124, 124], [38, 38], [47, 47], [33], [61, 126], [33, 126], [61, 62], [45, 62], [38], [124], [94]]
def isSignB (l : List UInt8) : Bool := signsL.contains l
set_option maxRecDepth 100000 in
set_option maxHeartbeats 2000000 in
theorem isSign_p (s : ByteArray) (w : World) : Calls Tryd.prog 60 #[.string s] w fun e w' => e = .returned (.bool (isSignB s.data.toList)) ∧ w = w' := by
  obtain ⟨R, hR⟩ : ∃ R, R = isSignB s.data.toList := ⟨_, rfl⟩
  have HR : Hid (R = (s.toList == [40] || s.toList == [41] || s.toList == [91] || s.toList == [93] || s.toList == [123] || s.toList == [125] || s.toList == [44] || s.toList == [59] || s.toList == [58] || s.toList == [63] || s.toList == [92] || s.toList == [61] || s.toList == [61, 61] || s.toList == [33, 61] || s.toList == [60] || s.toList == [62] || s.toList == [60, 61] || s.toList == [62, 61] || s.toList == [60, 61, 62] || s.toList == [43] || s.toList == [45] || s.toList == [42] || s.toList == [47] || s.toList == [37] || s.toList == [46] || s.toList == [46, 46] || s.toList == [43, 43] || s.toList == [45, 45] || s.toList == [43, 61] || s.toList == [45, 61] || s.toList == [42, 61] || s.toList == [47, 61] || s.toList == [37, 61] || s.toList == [46, 61] || s.toList == [124, 124, 61] || s.toList == [38, 38, 61] || s.toList == [47, 47, 61] || s.toList == [124, 124] || s.toList == [38, 38] || s.toList == [47, 47] || s.toList == [33] || s.toList == [61, 126] || s.toList == [33, 126] || s.toList == [61, 62] || s.toList == [45, 62] || s.toList == [38] || s.toList == [124] || s.toList == [94])) := Lib.hid (by
    rw [hR, ByteArray.toList_eq]
    simp only [isSignB, signsL, List.contains_cons, List.contains_nil, Bool.or_false, Bool.or_assoc])
  rw [← hR]
  clear hR
  go_enter Tryd.func60, Tryd.ntmps60
  go_wp2
  all_goals
    go_ret
    refine ⟨?_, rfl⟩
    rw [HR.out]
    first
      | (simp [*]; done)
      | simp_all
end Go.Proofs.YthmopindibdhnaaDoor
