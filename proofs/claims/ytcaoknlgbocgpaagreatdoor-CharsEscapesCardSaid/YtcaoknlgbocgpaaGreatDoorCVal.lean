/- Which beginning of a text is valid: the program's function. -/
import Derived.Test.YtcaoknlgbocgpaaGreatDoorCLib
namespace Go.Proofs.YtcaoknlgbocgpaaGreatDoor
open Go.RowKit Go.Shelf
theorem one_fffd : oneL 65533 = [239, 191, 189] := by decide
theorem pre_fffd {l : List UInt8} (h : (firstL l).2 = 0) : Lib.hasPrefix l [239, 191, 189] = false := by
  cases hp : Lib.hasPrefix l [239, 191, 189]
  · rfl
  · exfalso
    unfold Lib.hasPrefix at hp
    obtain ⟨r, hr⟩ := List.isPrefixOf_iff_prefix.1 hp
    have := (first_one (c := 65533) (by decide) r).1
    rw [one_fffd, hr] at this
    rw [this] at h
    simp at h
theorem pre_fffd' {l : List UInt8} (h : (firstL l).2 ≠ 0) (hc : (firstL l).1 = 65533) : Lib.hasPrefix l [239, 191, 189] = true := by
  unfold Lib.hasPrefix
  rw [List.isPrefixOf_iff_prefix, ← one_fffd, ← hc, (one_first h).2]
  exact List.take_prefix _ _
def validR (Q : Nat × Bool) (l : List UInt8) (p : Nat) : Prop := Q = (p + (validL (l.drop p)).1, (validL (l.drop p)).2)
theorem validR_on {Q : Nat × Bool} {l : List UInt8} {p : Nat} (h : validR Q l p) (hp : p < l.length) (hn : (firstL (l.drop p)).2 ≠ 0) : validR Q l (p + (firstL (l.drop p)).2) := by
  have hne : l.drop p ≠ [] := by rw [ne_eq, List.drop_eq_nil_iff]; omega
  unfold validR at *
  rw [h, validL_on hne hn, List.drop_drop, Nat.add_assoc]
theorem validR_no {Q : Nat × Bool} {l : List UInt8} {p : Nat} (h : validR Q l p) (hp : p < l.length) (hn : (firstL (l.drop p)).2 = 0) : Q = (p, false) := by
  have hne : l.drop p ≠ [] := by rw [ne_eq, List.drop_eq_nil_iff]; omega
  unfold validR at h
  rw [h, validL_no hne hn, Nat.add_zero]
theorem validR_end {Q : Nat × Bool} {l : List UInt8} {p : Nat} (h : validR Q l p) (hp : ¬ p < l.length) : Q = (p, true) := by
  unfold validR at h
  rw [h, List.drop_eq_nil_of_le (by omega), validL_nil, Nat.add_zero]
set_option maxRecDepth 100000 in
set_option maxHeartbeats 2000000 in
theorem valid_p (s : ByteArray) (w : World) : Calls Tryz.prog 56 #[.string s] w fun e w' => e = .returned (.tuple #[.int .i64 (validL s.data.toList).1, .bool (validL s.data.toList).2]) ∧ Gr w w' := by
  have H0 : Hid (validR (validL s.data.toList) s.data.toList 0) := Lib.hid (by unfold validR; simp)
  generalize validL s.data.toList = Q at *
  go_enter Tryz.func56, Tryz.ntmps56
  go_wp2_with fail
  go_loopw [] (fun wr => ∃ pos : Nat, pos ≤ s.size ∧ wr.heap[w.heap.size]? = some (.stringIter s pos) ∧ Gr w wr ∧ Hid (validR Q s.data.toList pos)) (fun wr => s.size - wr.iterPos w.heap.size)
  case atStart => exact ⟨0, Nat.zero_le _, by have := World.iter_heap w s 0; simpa using this, (Below.refl _ w).alloc (Nat.le_refl _) _, H0⟩
  case round =>
    obtain ⟨pos, hpl, hit, hbw, HR⟩ := hrel
    clear H0
    have hbw2 := Lib.hid hbw
    clear hbw
    by_cases hp : pos < s.size
    · have hnx : ∀ ty, (Instr.next (.pointer (some ⟨w.heap.size, 0, none⟩)) true ty).run Tryz.prog wr = _ := fun ty => Lib.run_next_any_at wr w.heap.size s pos ty hit hp
      have hit2 := Lib.iterAt_heap wr w.heap.size s pos (pos + (Utf8.decode s pos).2) hit
      have hgr : Hid (Gr w (wr.iterAt w.heap.size s (pos + (Utf8.decode s pos).2))) := Lib.hid (Lib.below_iterAt hbw2.out (k := w.heap.size) (Nat.le_refl _) s (pos + (Utf8.decode s pos).2))
      have hpL : pos < s.data.toList.length := by rw [sizeL]; exact hp
      have hmx := fun w => prefix_any (s.extract pos s.size) ⟨#[239, 191, 189]⟩ w
      rw [dropE] at hmx
      by_cases hn : (firstL (s.data.toList.drop pos)).2 = 0
      · have HE := Lib.hid (validR_no HR.out hpL hn)
        have hpre := pre_fffd hn
        rw [show (⟨#[239, 191, 189]⟩ : ByteArray).data.toList = [239, 191, 189] from rfl, hpre] at hmx
        have hd := decode_bad hp hn
        rw [hd] at hnx hit2 hgr
        have HM := Lib.hid hmx
        clear hmx hpre hd hn hpL HR hbw2 hit2
        generalize wr.iterAt w.heap.size s (pos + 1) = w2 at *
        go_wp2_with (go_at_call 74; refine (HM.out _).mono ?_; rintro e w3 ⟨rfl, rfl⟩)
        go_ret2
        exact ⟨by rw [HE.out]; rfl, hgr.out⟩
      · have HR2 := Lib.hid (validR_on HR.out hpL hn)
        have hlen := firstL_len (s.data.toList.drop pos)
        rw [List.length_drop, sizeL] at hlen
        have hd := decode_ok hp hn
        have hch := (one_first hn).1
        have hcb := isCh_true.1 hch
        by_cases hc : (firstL (s.data.toList.drop pos)).1 = 65533
        · have hpre := pre_fffd' hn hc
          rw [show (⟨#[239, 191, 189]⟩ : ByteArray).data.toList = [239, 191, 189] from rfl, hpre] at hmx
          rw [hd, hc] at hnx
          rw [hd] at hit2 hgr
          have HM := Lib.hid hmx
          clear hmx hpre hd hch hcb hpL HR hbw2
          generalize (firstL (s.data.toList.drop pos)).2 = n at *
          have Hit := Lib.hid hit
          clear hit hc
          have Hit2 := Lib.hid hit2
          clear hit2
          generalize wr.iterAt w.heap.size s (pos + n) = w2 at *
          go_wp2_with (go_at_call 74; refine (HM.out _).mono ?_; rintro e w3 ⟨rfl, rfl⟩)
          go_roundw
          case rel => exact ⟨pos + n, by omega, Hit2.out, hgr.out, HR2⟩
          case measure =>
            have h1 := Hit.out
            have h2 := Hit2.out
            simp only [World.iterPos, h1, h2]
            omega
        · rw [hd] at hnx hit2 hgr
          have hcb' : ((((firstL (s.data.toList.drop pos)).1.toNat : Nat) : Int) == 65533) = false := by simp; omega
          clear hmx hd hch hcb hpL HR hbw2
          generalize (firstL (s.data.toList.drop pos)).2 = n at *
          generalize (firstL (s.data.toList.drop pos)).1.toNat = c at *
          have Hit := Lib.hid hit
          clear hit hc
          have Hit2 := Lib.hid hit2
          clear hit2
          generalize wr.iterAt w.heap.size s (pos + n) = w2 at *
          go_wp2_with fail
          go_roundw
          case rel => exact ⟨pos + n, by omega, Hit2.out, hgr.out, HR2⟩
          case measure =>
            have h1 := Hit.out
            have h2 := Hit2.out
            simp only [World.iterPos, h1, h2]
            omega
    · have hnx : ∀ ty, (Instr.next (.pointer (some ⟨w.heap.size, 0, none⟩)) true ty).run Tryz.prog wr = _ := fun ty => Lib.run_next_end_at wr w.heap.size s pos ty hit hp
      have HE := Lib.hid (validR_end HR.out (by rw [sizeL]; exact hp))
      obtain rfl : pos = s.size := by omega
      clear HR hit
      go_wp2
      go_ret2
      exact ⟨by rw [HE.out]; rfl, hbw2.out⟩
end Go.Proofs.YtcaoknlgbocgpaaGreatDoor
