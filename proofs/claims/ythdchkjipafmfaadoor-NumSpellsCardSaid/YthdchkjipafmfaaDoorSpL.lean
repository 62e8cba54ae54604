/- The walk of NumSpells. -/
import Derived.Test.YthdchkjipafmfaaDoorSpN
import Derived.Test.YthdchkjipafmfaaDoorSpS
import Derived.Test.YthdchkjipafmfaaDoorRadx
import Derived.ProofKit
import Derived.Lib.LaidTab
import Derived.Stop.LaidErr
import GoSem.PinnedTables
namespace Go.Proofs.YthdchkjipafmfaaDoor
open Go.RowKit Go.Shelf
theorem dtab_of {W : World} {a b c d : String × DataW Unit} (hb : b = ("math/bits.deBruijn64tab", Lib.tabData .u8 (Lib.deBruijn64tab.map Int.ofNat))) (h : laidMet Tryd.prog [a, b, c, d, ("unicode/utf8.first", Go.Pinned.utf8First)] W) : DTab W := by
  subst hb
  have t := Lib.tabIs_of_head (g := 5) (t := 139) (e := 5) (n := 64) (by kernel_rfl) (by kernel_rfl) Tryd.underlying139 Tryd.underlying5 (by kernel_rfl) (by kernel_rfl) (laidMet.tail h)
  intro j hj
  have hj' : j < (Lib.deBruijn64tab.map Int.ofNat).length := by rw [List.length_map]; exact hj
  have := t.cell (g := 5) (by kernel_rfl) j hj'
  rw [this, List.getD_eq_getElem?_getD, List.getD_eq_getElem?_getD, List.getElem?_map, List.getElem?_eq_getElem hj]
  rfl
theorem spell_any (n base : Int) (w : World) (hT : Tab w) (hD : DTab w) : Calls Tryd.prog 44 #[.int .i64 n, .int .i64 base] w (TxtPost (spl n base) (spE n base) w) := by
  by_cases h : baseB base = true ∧ isNumB n = true
  · exact spell_ok n base h.1 h.2 w hT hD
  · exact spell_no n base h w
/-- either Spell refuses, or the number is below 0, or the text reads as the number -/
theorem spl_cases (n base : Int) : spE n base = 1 ∨ (spE n base = 0 ∧ n < 0) ∨ (spE n base = 0 ∧ ¬ n < 0 ∧ rad (spl n base) = some n ∧ (spl n base).length ≤ 56) := by
  by_cases hok : baseB base = true ∧ isNumB n = true
  · obtain ⟨hb, hn⟩ := hok
    by_cases h0 : n < 0
    · exact .inr (.inl ⟨(spl_neg hb hn h0).2, h0⟩)
    · have hc : base = 2 ∨ base = 8 ∨ base = 10 ∨ base = 16 := by simp [baseB] at hb; omega
      have hnb : -9007199254740992 ≤ n ∧ n ≤ 9007199254740992 := by simpa [isNumB] using hn
      obtain ⟨b, rfl⟩ : ∃ b : Nat, base = (b : Int) := ⟨base.toNat, by omega⟩
      obtain ⟨u, rfl⟩ : ∃ u : Nat, n = (u : Int) := ⟨n.toNat, by omega⟩
      have e : spl (u : Int) b = pfx (b : Int) u ++ sp b u := by rw [(spl_pos hb hn h0).1, Int.toNat_natCast, Int.natAbs_natCast]
      refine .inr (.inr ⟨(spl_pos hb hn h0).2, h0, by rw [e]; exact rad_sp b u hb (by omega), ?_⟩)
      have h1 := sp_len b (by omega) 53 u (Nat.lt_of_le_of_lt (show u ≤ 9007199254740992 by omega) (by decide))
      have h2 : (pfx (b : Int) u).length ≤ 2 := by
        unfold pfx; split
        · decide
        · split
          · decide
          · split <;> decide
      rw [e, List.length_append]; omega
  · exact .inl (spl_no hok).2
theorem law_spells (n base : Int) (_hn : -9223372036854775808 ≤ n ∧ n ≤ 9223372036854775807) (_hb : -9223372036854775808 ≤ base ∧ base ≤ 9223372036854775807) (w : World) (hT : Tab w) (hD : DTab w) :
    Calls Tryd.prog 13 #[.int .i64 n, .int .i64 base] w fun e w' => e = .returned (.bool true) ∧ Gr w w' := by
  have H1 := Lib.hid (fun w => refSpell_any n base w)
  have H2 := Lib.hid (fun w hT hD => spell_any n base w hT hD)
  have HT := Lib.hid (And.intro hT hD)
  have hc := spl_cases n base
  clear hT hD _hn _hb
  generalize spl n base = L at *
  generalize spE n base = E at *
  rcases hc with rfl | ⟨rfl, h0⟩ | ⟨rfl, h0, hr, hl⟩
  case inr.inr =>
    have HR := Lib.hid hr
    have HL := Lib.hid hl
    clear hr hl
    go_enter Tryd.func13, Tryd.ntmps13
    go_wp2_with fail
    refine (H1.out _).mono ?_
    rintro e w1 ⟨r1, hr1, rfl, g1⟩
    have Hr1 := Lib.hid hr1
    have HT1 : Hid (Tab w1 ∧ DTab w1) := Lib.hid ⟨HT.out.1.on g1, HT.out.2.on g1⟩
    clear hr1
    go_wp2_with fail
    refine (H2.out _ HT1.out.1 HT1.out.2).mono ?_
    rintro e w2 ⟨r2, hr2, rfl, g2⟩
    have heq : (r2.toList == r1.toList) = true := by rw [ByteArray.toList_eq, ByteArray.toList_eq, Hr1.out, hr2]; simp
    have hX := Lib.hid (fun w => radix_any r2 w (by rw [← sizeL, hr2]; exact Nat.le_trans HL.out (by decide)))
    rw [hr2, HR.out] at hX
    clear hr2
    go_wp2_with fail
    refine (hX.out _).mono ?_
    rintro e w3 ⟨rfl, g3⟩
    go_wp2_with fail
    refine (known_any _).mono ?_
    rintro e w4 ⟨rfl, g4⟩
    go_wp2
    go_ret
    exact ⟨rfl, ((g1.trans g2).trans g3).trans g4⟩
  all_goals
    go_enter Tryd.func13, Tryd.ntmps13
    go_wp2_with fail
    refine (H1.out _).mono ?_
    rintro e w1 ⟨r1, hr1, rfl, g1⟩
    have Hr1 := Lib.hid hr1
    have HT1 : Hid (Tab w1 ∧ DTab w1) := Lib.hid ⟨HT.out.1.on g1, HT.out.2.on g1⟩
    clear hr1
    go_wp2_with fail
    refine (H2.out _ HT1.out.1 HT1.out.2).mono ?_
    rintro e w2 ⟨r2, hr2, rfl, g2⟩
    have heq : (r2.toList == r1.toList) = true := by rw [ByteArray.toList_eq, ByteArray.toList_eq, Hr1.out, hr2]; simp
    clear hr2
    go_wp2_with fail
    refine (known_any _).mono ?_
    rintro e w3 ⟨rfl, g3⟩
    go_wp2
    go_ret
    exact ⟨rfl, (g1.trans g2).trans g3⟩
end Go.Proofs.YthdchkjipafmfaaDoor
