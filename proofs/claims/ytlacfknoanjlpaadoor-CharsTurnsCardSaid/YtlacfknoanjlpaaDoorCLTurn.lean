/- The law on texts turned round. -/
import Derived.Test.YtlacfknoanjlpaaDoorCKnow
import Derived.Test.YtlacfknoanjlpaaDoorCRev
namespace Go.Proofs.YtlacfknoanjlpaaDoor
open Go.RowKit Go.Shelf
theorem rev_rev {l : List UInt8} (h : chkE l = 0) : revT (revT l).1 = (l, 0) := by
  obtain ⟨h1, h2⟩ := chkE_zero h
  have ha := all_rev (runes_ch l)
  have hw := write_runes l h2
  have hl : (writeL (runesL l).reverse).length ≤ 4096 := by rw [writeL_rev_len, hw]; exact h1
  rw [revT_ok h]
  show revT (writeL (runesL l).reverse) = _
  rw [revT_ok (chk_write ha hl), (runes_write _ ha).1, List.reverse_reverse, hw]
theorem bytes_self (s : ByteArray) : (⟨s.data.toList.toArray⟩ : ByteArray) = s := (barr_of rfl).symm
set_option maxRecDepth 100000 in
set_option maxHeartbeats 1000000 in
theorem law_turns (s : ByteArray) (_hs : s.size ≤ 140737488351232) (w : World) (hT : Tabs w) : Calls Tryd.prog 10 #[.string s] w fun e w' => e = .returned (.bool true) ∧ Gr w w' := by
  have HK := Lib.hid (fun w (h : Tabs w) => known_any w h)
  have HT := Lib.hid hT
  clear hT
  by_cases h1 : 20000 < s.size
  · go_enter Tryd.func10, Tryd.ntmps10
    go_wp2_with fail
    refine (HK.out _ HT.out).mono ?_
    rintro e w1 ⟨rfl, g1⟩
    go_wp2
    go_ret
    exact ⟨rfl, g1⟩
  · have HR := Lib.hid (fun w => reverse_r s (by omega) w)
    have HP := Lib.hid (fun w => reverse_p s w)
    have HP2 := Lib.hid (fun w => reverse_p ⟨(revT s.data.toList).1.toArray⟩ w)
    rw [show (⟨(revT s.data.toList).1.toArray⟩ : ByteArray).data.toList = (revT s.data.toList).1 by simp] at HP2
    by_cases h : chkE s.data.toList = 0
    · have hrr := rev_rev h
      rw [hrr] at HP2
      rw [revT_ok h] at HR HP HP2
      have HP2 : Hid (∀ w, Calls Tryd.prog 42 #[.string ⟨(writeL (runesL s.data.toList).reverse).toArray⟩] w fun e w' => e = .returned (.tuple #[.string s, .int .i64 0]) ∧ Gr w w') := Lib.hid (fun w => (HP2.out w).mono fun e w' ⟨he, hg⟩ => ⟨by rw [he]; try (show Ending.returned (.tuple #[.string ⟨s.data.toList.toArray⟩, _]) = _; rw [bytes_self]), hg⟩)
      clear h hrr
      generalize writeL (runesL s.data.toList).reverse = A at *
      go_enter Tryd.func10, Tryd.ntmps10
      go_wp2_with fail
      refine (HR.out _).mono ?_
      rintro e w1 ⟨rfl, g1⟩
      go_wp2_with fail
      refine (HP.out _).mono ?_
      rintro e w2 ⟨rfl, g2⟩
      go_wp2_with fail
      refine (HP2.out _).mono ?_
      rintro e w3 ⟨rfl, g3⟩
      have G := Lib.hid (Gr.trans g1 (Gr.trans g2 g3))
      go_wp2_with fail
      refine (HK.out _ (HT.out.gr G.out)).mono ?_
      rintro e w4 ⟨rfl, g4⟩
      go_wp2
      go_ret
      exact ⟨by simp, Gr.trans G.out g4⟩
    · have hb : (chkE s.data.toList == 0) = false := beq_eq_false_iff_ne.2 h
      rw [revT_no h] at HR HP HP2
      generalize chkE s.data.toList = E at *
      generalize revT [] = B at *
      obtain ⟨b1, b2⟩ := B
      go_enter Tryd.func10, Tryd.ntmps10
      go_wp2_with fail
      refine (HR.out _).mono ?_
      rintro e w1 ⟨rfl, g1⟩
      go_wp2_with fail
      refine (HP.out _).mono ?_
      rintro e w2 ⟨rfl, g2⟩
      go_wp2_with fail
      refine (HP2.out _).mono ?_
      rintro e w3 ⟨rfl, g3⟩
      have G := Lib.hid (Gr.trans g1 (Gr.trans g2 g3))
      go_wp2_with fail
      refine (HK.out _ (HT.out.gr G.out)).mono ?_
      rintro e w4 ⟨rfl, g4⟩
      go_wp2
      go_ret
      exact ⟨by simp, Gr.trans G.out g4⟩
end Go.Proofs.YtlacfknoanjlpaaDoor
