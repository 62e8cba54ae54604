/- Texts in quotes: escaped, on both sides. -/
import Derived.Test.YtaoehbnjipegoaaDoorLFor2
namespace Go.Proofs.YtaoehbnjipegoaaDoor
open Go.RowKit Go.Shelf
def escC (c : UInt8) : List UInt8 := if c = 39 ∨ c = 92 then [92, c] else [c]
def escL (l : List UInt8) : List UInt8 := l.flatMap escC
variable {l : List UInt8} {i : Nat}
theorem escL_step (h : i < l.length) : escL (l.take (i + 1)) = escL (l.take i) ++ escC l[i] := by
  rw [List.take_add_one, List.getElem?_eq_getElem h]
  simp only [escL, Option.toList, List.flatMap_append, List.flatMap_cons, List.flatMap_nil, List.append_nil]
theorem escC_len (c : UInt8) : (escC c).length ≤ 2 := by unfold escC; split <;> simp
theorem escL_len (l : List UInt8) : (escL l).length ≤ 2 * l.length := by
  unfold escL
  induction l with
  | nil => simp
  | cons c t ih => rw [List.flatMap_cons, List.length_append, List.length_cons]; have := escC_len c; omega
theorem idxQ (c : UInt8) : decide (0 ≤ Lib.indexByte [39, 92] (c.toNat : Int).toNat.toUInt8) = decide (c = 39 ∨ c = 92) := by
  have e : (c.toNat : Int).toNat.toUInt8 = c := by simp
  rw [e]
  by_cases h1 : c = 39
  · subst h1; rfl
  · by_cases h2 : c = 92
    · subst h2; rfl
    · have : Lib.indexByte [39, 92] c = -1 := by
        simp [Lib.indexByte, Ne.symm h1, Ne.symm h2]
      rw [this]; simp [h1, h2]
set_option maxRecDepth 100000 in
set_option maxHeartbeats 1000000 in
theorem escaped_p (s : ByteArray) (hs : s.size ≤ 1000000) (w : World) :
    Calls Tryd.prog 33 #[.string s, .string ⟨#[39, 92]⟩] w fun e w' => e = .returned (.string ⟨(escL s.data.toList).toArray⟩) ∧ Gr w w' := by
  obtain ⟨l, hl⟩ : ∃ l, l = s.data.toList := ⟨_, rfl⟩
  have hsz : s.size = l.length := by rw [hl, ← sizeL]
  have HB := Lib.hid (fun n (h : n < s.size) (h' : n < l.length) => (show s[n] = l[n] by subst hl; exact byteE s n h h'))
  have HI := Lib.hid (fun x w => idx_any ⟨#[39, 92]⟩ x w)
  rw [show (⟨#[39, 92]⟩ : ByteArray).data.toList = [39, 92] from rfl] at HI
  rw [← hl]
  obtain ⟨R, hR⟩ : ∃ R, R = escL l := ⟨_, rfl⟩
  rw [← hR]
  have HR := Lib.hid hR
  have Hsz := Lib.hid hsz
  clear hl hsz hR
  go_enter Tryd.func33, Tryd.ntmps33
  go_wp2_with fail
  generalize hW : w.alloc (.cells #[.pointer none, .slice none 0 0] 54) = W1
  have G1 : Hid (Gr w W1) := Lib.hid (by rw [← hW]; exact (Gr.refl w).alloc _)
  have hBl : Hid (Bld w.heap.size [] W1) := Lib.hid (by rw [← hW]; exact bld_new w)
  have hsz1 : Hid (W1.heap.size = w.heap.size + 1) := Lib.hid (by rw [← hW]; simp)
  clear hW
  go_loopw [6, 9] (fun _ iv wr => ∃ i : Nat, iv = .int .i64 (i : Int) ∧ i ≤ s.size ∧ Bld w.heap.size (escL (l.take i)) wr ∧ Gr w wr ∧ w.heap.size + 1 ≤ wr.heap.size) (fun _ iv _ => leftTo s.size iv)
  case atStart => exact ⟨0, rfl, Nat.zero_le _, hBl.out, G1.out, by rw [hsz1.out]; exact Nat.le_refl _⟩
  case round =>
    obtain ⟨i, rfl, hi, hB, hG, hZ⟩ := hrel
    have Bl := Lib.hid hB
    have Gg := Lib.hid hG
    have Z := Lib.hid hZ
    clear hB hG hZ hBl hsz1 G1
    by_cases hc : i < s.size
    · have hci : (i : Int) < (s.size : Int) := by omega
      have hL : i < l.length := by rw [← Hsz.out]; exact hc
      have ex := HB.out i hc hL
      have hst := Lib.hid (escL_step hL)
      have hi1 : (i : Int) + 1 ≤ 9223372036854775807 := by omega
      have hi2 : -9223372036854775808 ≤ (i : Int) + 1 := by omega
      have hln : Hid ((escL (l.take i)).length ≤ 2000000) := Lib.hid (by have := escL_len (l.take i); rw [List.length_take] at this; omega)
      have hI := Lib.hid (fun w => HI.out (l[i].toNat : Int) w)
      have hq := idxQ l[i]
      generalize l[i] = x at *
      generalize Lib.indexByte [39, 92] (x.toNat : Int).toNat.toUInt8 = r at *
      by_cases hx : x = 39 ∨ x = 92
      · have hE : Hid (escC x = [92, x]) := Lib.hid (by unfold escC; rw [if_pos hx])
        have tr : (0 : Int) ≤ r := by rw [decide_eq_true hx] at hq; exact of_decide_eq_true hq
        clear hq hx HB HI hL
        go_wp2_with fail
        refine (hI.out _).mono ?_
        rintro e w1 ⟨rfl, rfl⟩
        go_wp2_with fail
        refine (bld_byte 92 Bl.out (by have := hln.out; omega) (by have := Z.out; omega)).mono ?_
        rintro e w2 ⟨rfl, hl2, hb2, _⟩
        have B2 := Lib.hid hl2
        have G2 := Lib.hid (Gr.below' Gg.out hb2)
        have Z2 : Hid (w.heap.size + 1 ≤ w2.heap.size) := Lib.hid (Nat.le_trans Z.out hb2.size)
        clear hl2 hb2 Bl Gg Z
        go_wp2_with fail
        refine (bld_byte x B2.out (by have := hln.out; simp; omega) (by have := Z2.out; omega)).mono ?_
        rintro e w3 ⟨rfl, hl3, hb3, _⟩
        have B3 := Lib.hid hl3
        have G3 := Lib.hid (Gr.below' G2.out hb3)
        have Z3 : Hid (w.heap.size + 1 ≤ w3.heap.size) := Lib.hid (Nat.le_trans Z2.out hb3.size)
        clear hl3 hb3 B2 G2 Z2
        go_wp2_with fail
        go_roundw
        case rel => exact ⟨i + 1, rfl, hc, by rw [hst.out, hE.out]; simpa using B3.out, G3.out, Z3.out⟩
        case measure => simp only [leftTo]; omega
      · have hE : Hid (escC x = [x]) := Lib.hid (by unfold escC; rw [if_neg hx])
        have tr : decide ((0 : Int) ≤ r) = false := by rw [hq]; simpa using hx
        clear hq hx HB HI hL
        go_wp2_with fail
        refine (hI.out _).mono ?_
        rintro e w1 ⟨rfl, rfl⟩
        go_wp2_with fail
        refine (bld_byte x Bl.out (by have := hln.out; omega) (by have := Z.out; omega)).mono ?_
        rintro e w3 ⟨rfl, hl3, hb3, _⟩
        have B3 := Lib.hid hl3
        have G3 := Lib.hid (Gr.below' Gg.out hb3)
        have Z3 : Hid (w.heap.size + 1 ≤ w3.heap.size) := Lib.hid (Nat.le_trans Z.out hb3.size)
        clear hl3 hb3 Bl Gg Z
        go_wp2_with fail
        go_roundw
        case rel => exact ⟨i + 1, rfl, hc, by rw [hst.out, hE.out]; simpa using B3.out, G3.out, Z3.out⟩
        case measure => simp only [leftTo]; omega
    · have hci : decide ((i : Int) < (s.size : Int)) = false := by simp; omega
      have hci' : decide (i < s.size) = false := by simp; omega
      have E : Hid (R = escL (l.take i)) := Lib.hid (by rw [HR.out, List.take_of_length_le (by have := Hsz.out; omega)])
      clear HB HI hc
      go_wp2_with fail
      refine (bld_text Bl.out (by have := Z.out; omega)).mono ?_
      rintro e2 w3 ⟨rfl, hb3⟩
      have G3 := Lib.hid (Gr.below' Gg.out hb3)
      clear hb3
      go_wp2
      go_ret
      exact ⟨by rw [E.out]; rfl, G3.out⟩
end Go.Proofs.YtaoehbnjipegoaaDoor
