/- Package num's digits in a base: FormatInt at the four bases; prefixOf. -/
import Derived.Test.YthdchkjipafmfaaDoorFb
import Derived.Test.YthdchkjipafmfaaDoorSpR
import Derived.Test.YthdchkjipafmfaaDoorScal2
namespace Go.Proofs.YthdchkjipafmfaaDoor
open Go.RowKit Go.Shelf
theorem inner_any (base u : Nat) (hb : base = 2 ∨ base = 8 ∨ base = 16) (hu : u ≤ 9007199254740992) (w : World) (hT : DTab w) :
    Calls Tryd.prog 115 #[.int .i64 (u : Int), .int .i64 (base : Int)] w (WriPost (sp base u) w) := by
  rcases hb with rfl | rfl | rfl
  · have H := Lib.hid (fb2 u hu w hT)
    clear hT
    show Calls _ _ #[.int .i64 (u : Int), .int .i64 2] _ _
    go_enter Tryd.func115, Tryd.ntmps115
    go_wp2_with fail
    refine H.out.mono ?_
    rintro e w1 ⟨r, hr, rfl, hg⟩
    have Hr := Lib.hid hr
    clear hr
    go_wp2
    go_ret
    exact ⟨r, Hr.out, rfl, hg⟩
  · have H := Lib.hid (fb8 u hu w hT)
    clear hT
    show Calls _ _ #[.int .i64 (u : Int), .int .i64 8] _ _
    go_enter Tryd.func115, Tryd.ntmps115
    go_wp2_with fail
    refine H.out.mono ?_
    rintro e w1 ⟨r, hr, rfl, hg⟩
    have Hr := Lib.hid hr
    clear hr
    go_wp2
    go_ret
    exact ⟨r, Hr.out, rfl, hg⟩
  · have H := Lib.hid (fb16 u hu w hT)
    clear hT
    show Calls _ _ #[.int .i64 (u : Int), .int .i64 16] _ _
    go_enter Tryd.func115, Tryd.ntmps115
    go_wp2_with fail
    refine H.out.mono ?_
    rintro e w1 ⟨r, hr, rfl, hg⟩
    have Hr := Lib.hid hr
    clear hr
    go_wp2
    go_ret
    exact ⟨r, Hr.out, rfl, hg⟩
theorem formatInt_any (base u : Nat) (hb : baseB base = true) (hu : u ≤ 9007199254740992) (w : World) (hT : Tab w) (hD : DTab w) :
    Calls Tryd.prog 74 #[.int .i64 (u : Int), .int .i64 (base : Int)] w (WriPost (sp base u) w) := by
  have hc : base = 2 ∨ base = 8 ∨ base = 10 ∨ base = 16 := by simp [baseB] at hb; omega
  by_cases h10 : base = 10
  · subst h10
    rw [sp10, ← Lib.itoa_nonneg]
    have c := Any.strconv_FormatInt_10 Tryd.laysM173 (u : Int) (by omega) (by omega) w hT
    change Calls Tryd.prog 74 _ _ _ at c
    exact c.mono fun e w' ⟨he, k, os, hw⟩ => ⟨⟨(Lib.itoa (u : Int)).toArray⟩, by simp, he, by
      subst hw
      exact (Gr.refl w).trans (Lib.below_grow _ _ (Nat.le_refl _) _ _)⟩
  · have H := Lib.hid (inner_any base u (by omega) hu w hD)
    clear hT hD hc hb h10
    go_enter Tryd.func74, Tryd.ntmps74
    go_wp2_with fail
    refine H.out.mono ?_
    rintro e w1 ⟨r, hr, rfl, hg⟩
    have Hr := Lib.hid hr
    clear hr
    go_wp2
    go_ret
    exact ⟨r, Hr.out, rfl, hg⟩
theorem prefixOf_no (base : Int) (hb : baseB base = false) (w : World) : Calls Tryd.prog 73 #[.int .i64 base] w fun e w' => e = .returned (.tuple #[.string ⟨#[]⟩, .bool false]) ∧ w = w' := by
  have h2 : (base == 2) = false := by simp [baseB] at hb ⊢; omega
  have h8 : (base == 8) = false := by simp [baseB] at hb ⊢; omega
  have h10 : (base == 10) = false := by simp [baseB] at hb ⊢; omega
  have h16 : (base == 16) = false := by simp [baseB] at hb ⊢; omega
  clear hb
  go_enter Tryd.func73, Tryd.ntmps73
  go_wp2
  go_ret2
  exact ⟨rfl, rfl⟩
/-- the prefix that package num writes -/
def pfxN (base : Int) : ByteArray := if base = 2 then ⟨#[48, 98]⟩ else if base = 16 then ⟨#[48, 120]⟩ else if base = 8 then ⟨#[48]⟩ else ⟨#[]⟩
theorem prefixOf_yes (base : Int) (hb : baseB base = true) (w : World) : Calls Tryd.prog 73 #[.int .i64 base] w fun e w' => e = .returned (.tuple #[.string (pfxN base), .bool true]) ∧ w = w' := by
  have hc : base = 2 ∨ base = 8 ∨ base = 10 ∨ base = 16 := by simp [baseB] at hb; omega
  clear hb
  rcases hc with rfl | rfl | rfl | rfl
  all_goals
    go_enter Tryd.func73, Tryd.ntmps73
    go_wp2
    go_ret2
    exact ⟨rfl, rfl⟩
/-- what Spell gives -/
def spl (n base : Int) : List UInt8 := if baseB base = true ∧ isNumB n = true then (if n < 0 then 45 :: (pfx base (-n) ++ sp base.toNat n.natAbs) else pfx base n ++ sp base.toNat n.natAbs) else []
def spE (n base : Int) : Int := if baseB base = true ∧ isNumB n = true then 0 else 1
theorem spl_no {n base : Int} (h : ¬ (baseB base = true ∧ isNumB n = true)) : spl n base = [] ∧ spE n base = 1 := ⟨if_neg h, if_neg h⟩
theorem spl_neg {n base : Int} (h1 : baseB base = true) (h2 : isNumB n = true) (h : n < 0) : spl n base = 45 :: (pfx base (-n) ++ sp base.toNat n.natAbs) ∧ spE n base = 0 := ⟨by rw [spl, if_pos ⟨h1, h2⟩, if_pos h], if_pos ⟨h1, h2⟩⟩
theorem spl_pos {n base : Int} (h1 : baseB base = true) (h2 : isNumB n = true) (h : ¬ n < 0) : spl n base = pfx base n ++ sp base.toNat n.natAbs ∧ spE n base = 0 := ⟨by rw [spl, if_pos ⟨h1, h2⟩, if_neg h], if_pos ⟨h1, h2⟩⟩
end Go.Proofs.YthdchkjipafmfaaDoor
