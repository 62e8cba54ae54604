/- The program's Width, offset, Sub. -/
import Derived.Test.YtcaoknlgbocgpaaGreatDoorCPts
namespace Go.Proofs.YtcaoknlgbocgpaaGreatDoor
open Go.RowKit Go.Shelf
def widT (l : List UInt8) : Int × Int := if chkE l = 0 then ((runesL l).length, 0) else (0, chkE l)
theorem widT_no {l : List UInt8} (h : ¬ chkE l = 0) : widT l = (0, chkE l) := if_neg h
theorem widT_ok {l : List UInt8} (h : chkE l = 0) : widT l = (((runesL l).length : Int), 0) := if_pos h
abbrev IntQ (a : Int × Int) (w : World) (e : Ending) (w' : World) : Prop := e = .returned (.tuple #[.int .i64 a.1, .int .i64 a.2]) ∧ Gr w w'
theorem countV (s : ByteArray) (hs : s.size ≤ 4096) (hv : (validL s.data.toList).2 = true) (w : World) : Calls Tryz.prog 44 #[.string s] w fun e w' => e = .returned (.int .i64 ((runesL s.data.toList).length : Int)) ∧ Gr w w' := by
  have := count_any s (by omega) w
  rw [count_runes s hv] at this
  exact this
set_option maxRecDepth 100000 in
set_option maxHeartbeats 2000000 in
theorem offset_p (s : ByteArray) (hv : (validL s.data.toList).2 = true) (p : Int) (hp0 : 0 ≤ p) (hp1 : p ≤ 9223372036854775807) (w : World) :
    Calls Tryz.prog 45 #[.string s, .int .i64 p] w fun e w' => e = .returned (.int .i64 (offB s.data.toList p.toNat : Int)) ∧ Gr w w' := by
  have hA := Lib.hid (At.start hv)
  obtain ⟨P, rfl⟩ : ∃ P : Nat, p = (P : Int) := ⟨p.toNat, by omega⟩
  rw [Int.toNat_natCast]
  have HO := Lib.hid (fun j (h : (runesL s.data.toList).length ≤ j) => offB_all (write_runes _ hv) h)
  clear hv
  go_enter Tryz.func45, Tryz.ntmps45
  go_wp2_with fail
  go_loopw [1] (fun pv wr => ∃ pos j : Nat, j ≤ P ∧ pv = .int .i64 ((P : Int) - j) ∧ At s.data.toList pos j ∧ wr.heap[w.heap.size]? = some (.stringIter s pos) ∧ Gr w wr) (fun _ wr => s.size - wr.iterPos w.heap.size)
  case atStart => exact ⟨0, 0, Nat.zero_le _, by simp, hA.out, by have := World.iter_heap w s 0; simpa using this, (Below.refl _ w).alloc (Nat.le_refl _) _⟩
  case round =>
    obtain ⟨pos, j, hj, rfl, hat, hit, hg⟩ := hrel
    by_cases hp : pos < s.size
    · have hpL : pos < s.data.toList.length := by rw [sizeL]; exact hp
      have hnx : ∀ ty, (Instr.next (.pointer (some ⟨w.heap.size, 0, none⟩)) true ty).run Tryz.prog wr = _ := fun ty => Lib.run_next_any_at wr w.heap.size s pos ty hit hp
      have hn := hat.first hpL
      have hlen := firstL_len (s.data.toList.drop pos)
      rw [List.length_drop, sizeL] at hlen
      rw [decode_ok hp hn] at hnx
      have Hat := Lib.hid (hat.next hpL)
      have Hby : Hid (offB s.data.toList j = pos) := Lib.hid hat.byte.symm
      have hgb := Lib.hid (Lib.below_iterAt hg (k := w.heap.size) (Nat.le_refl _) s (pos + (firstL (s.data.toList.drop pos)).2))
      have Hit2 := Lib.hid (Lib.iterAt_heap wr w.heap.size s pos (pos + (firstL (s.data.toList.drop pos)).2) hit)
      have Hit := Lib.hid hit
      clear hit hg hat
      generalize (firstL (s.data.toList.drop pos)).1.toNat = c at *
      generalize (firstL (s.data.toList.drop pos)).2 = n at *
      generalize hw2 : wr.iterAt w.heap.size s (pos + n) = w2 at *
      clear hw2
      by_cases hz : j = P
      · subst hz
        rw [show ((j : Nat) : Int) - (j : Int) = 0 by omega]
        go_wp2
        go_ret
        exact ⟨by rw [Hby.out]; rfl, hgb.out⟩
      · have hzb : (((P : Int) - (j : Int)) == 0) = false := beq_eq_false_iff_ne.2 (by omega)
        go_wp2_with fail
        go_roundw
        case rel => exact ⟨pos + n, j + 1, by omega, by congr 1; omega, Hat.out, Hit2.out, hgb.out⟩
        case measure =>
          have h1 := Hit.out
          have h2 := Hit2.out
          simp only [World.iterPos, h1, h2]
          omega
    · have hnx : ∀ ty, (Instr.next (.pointer (some ⟨w.heap.size, 0, none⟩)) true ty).run Tryz.prog wr = _ := fun ty => Lib.run_next_end_at wr w.heap.size s pos ty hit hp
      have hf := hat.fin (by rw [sizeL]; exact hp)
      have HE : Hid (offB s.data.toList P = s.size) := Lib.hid (by rw [HO.out P (by omega), sizeL])
      have Hg := Lib.hid hg
      clear hf hat hit hg
      go_wp2
      go_ret
      exact ⟨by rw [HE.out]; rfl, Hg.out⟩
end Go.Proofs.YtcaoknlgbocgpaaGreatDoor
