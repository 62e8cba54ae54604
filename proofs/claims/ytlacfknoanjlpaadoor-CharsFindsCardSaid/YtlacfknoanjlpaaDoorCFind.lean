/- Where a text stands in another one: by bytes and by characters. Names no function of the program. -/
import Derived.Test.YtlacfknoanjlpaaDoorCAt
import Derived.Lib.Index
namespace Go.Proofs.YtlacfknoanjlpaaDoor
open Go.RowKit
theorem one_lead {c : Int} (h : isCh c = true) : ∃ b t, oneL c = b :: t ∧ goesB (b.toNat : Int) = false ∧ ∀ x ∈ t, goesB (x.toNat : Int) = true := by
  have hb := isCh_true.1 h
  have lo : ∀ n : Int, 0 ≤ n → n < 256 → ¬ (128 ≤ n ∧ n < 192) → goesB ((by8 n).toNat : Int) = false := by
    intro n h0 h1 h2
    rw [by8_to h0 h1]
    cases hg : goesB n
    · rfl
    · exact absurd (goes_true.1 hg) h2
  have hi : ∀ n : Int, 128 ≤ n → n < 192 → goesB ((by8 n).toNat : Int) = true := by
    intro n h0 h1
    rw [by8_to (by omega) (by omega)]
    exact goes_true.2 ⟨h0, h1⟩
  by_cases h1 : c < 128
  · exact ⟨_, _, one1 h1, lo c (by omega) (by omega) (by omega), by simp⟩
  by_cases h2 : c < 2048
  · refine ⟨_, _, one2 h1 h2, lo _ (by omega) (by omega) (by omega), ?_⟩
    intro x hx
    simp at hx
    subst hx
    exact hi _ (by omega) (by omega)
  by_cases h3 : c < 65536
  · refine ⟨_, _, one3 h1 h2 h3, lo _ (by omega) (by omega) (by omega), ?_⟩
    intro x hx
    simp at hx
    rcases hx with rfl | rfl
    · exact hi _ (by omega) (by omega)
    · exact hi _ (by omega) (by omega)
  · refine ⟨_, _, one4 h1 h2 h3, lo _ (by omega) (by omega) (by omega), ?_⟩
    intro x hx
    simp at hx
    rcases hx with rfl | rfl | rfl
    · exact hi _ (by omega) (by omega)
    · exact hi _ (by omega) (by omega)
    · exact hi _ (by omega) (by omega)
theorem write_lead {c : Int} {m : List Int} (h : isCh c = true) : ∃ b t, writeL (c :: m) = b :: t ∧ goesB (b.toNat : Int) = false := by
  obtain ⟨b, t, e, hb, _⟩ := one_lead h
  exact ⟨b, t ++ writeL m, by rw [writeL_cons, e]; rfl, hb⟩
theorem pre_write : ∀ {m ds : List Int}, m.all isCh = true → ds.all isCh = true → (writeL m).isPrefixOf (writeL ds) = m.isPrefixOf ds
  | [], ds, _, _ => by cases ds <;> simp [writeL, List.isPrefixOf]
  | x :: m, [], hm, _ => by
    rw [List.all_cons, Bool.and_eq_true] at hm
    obtain ⟨b, t, e, _⟩ := write_lead (m := m) hm.1
    rw [e]; rfl
  | x :: m, d :: ds, hm, hd => by
    rw [List.all_cons, Bool.and_eq_true] at hm hd
    by_cases hx : x = d
    · subst hx
      rw [writeL_cons, writeL_cons]
      have ih := pre_write hm.2 hd.2
      have e1 : (oneL x ++ writeL m).isPrefixOf (oneL x ++ writeL ds) = (writeL m).isPrefixOf (writeL ds) := by
        rw [Bool.eq_iff_iff, List.isPrefixOf_iff_prefix, List.isPrefixOf_iff_prefix, List.prefix_append_right_inj]
      rw [e1, ih]
      simp [List.isPrefixOf]
    · have e2 : (x :: m).isPrefixOf (d :: ds) = false := by simp [List.isPrefixOf, hx]
      rw [e2]
      cases hp : (writeL (x :: m)).isPrefixOf (writeL (d :: ds))
      · rfl
      · exfalso
        obtain ⟨r, hr⟩ := List.isPrefixOf_iff_prefix.1 hp
        have h1 := (first_one hm.1 (writeL m ++ r)).1
        have h2 := (first_one hd.1 (writeL ds)).1
        rw [← List.append_assoc, ← writeL_cons, hr, writeL_cons, h2] at h1
        exact hx (congrArg Prod.fst h1).symm
/-- bytes that go on hold no begin -/
theorem index_skip {b : UInt8} {t W : List UInt8} (hb : goesB (b.toNat : Int) = false) : ∀ u : List UInt8, (∀ x ∈ u, goesB (x.toNat : Int) = true) →
    Lib.index (u ++ W) (b :: t) = if Lib.index W (b :: t) = -1 then -1 else Lib.index W (b :: t) + u.length
  | [], _ => by
    by_cases h : Lib.index W (b :: t) = -1
    · rw [if_pos h, List.nil_append, h]
    · rw [if_neg h]; simp
  | x :: u, hu => by
    have ih := index_skip (W := W) (t := t) hb u (fun y hy => hu y (List.mem_cons_of_mem _ hy))
    have hx := hu x List.mem_cons_self
    have hne : ¬ b = x := by rintro rfl; rw [hb] at hx; cases hx
    have hp : (b :: t).isPrefixOf (x :: (u ++ W)) = false := by simp [List.isPrefixOf, hne]
    have hge := Lib.index_ge W (b :: t)
    rw [List.cons_append, Lib.index, if_neg (by rw [hp]; decide), ih]
    by_cases h : Lib.index W (b :: t) = -1
    · rw [if_pos h, if_pos h]; rfl
    · rw [if_neg h, if_neg h, if_neg (by simp; omega), List.length_cons]; omega
/-- the first place of characters -/
theorem index_chars {m : List Int} (hm : m.all isCh = true) : ∀ {cs : List Int}, cs.all isCh = true →
    (Lib.index (writeL cs) (writeL m) = -1 ∧ ∀ k, k ≤ cs.length → m.isPrefixOf (cs.drop k) = false) ∨
    (∃ k, k ≤ cs.length ∧ Lib.index (writeL cs) (writeL m) = ((writeL (cs.take k)).length : Int) ∧ m.isPrefixOf (cs.drop k) = true ∧ ∀ j, j < k → m.isPrefixOf (cs.drop j) = false)
  | [], _ => by
    cases m with
    | nil => exact .inr ⟨0, Nat.le_refl _, rfl, rfl, fun j h => absurd h (Nat.not_lt_zero _)⟩
    | cons x m =>
      rw [List.all_cons, Bool.and_eq_true] at hm
      obtain ⟨b, t, e, _⟩ := write_lead (m := m) hm.1
      refine .inl ⟨by rw [e]; rfl, fun k _ => ?_⟩
      cases k <;> rfl
  | c :: cs, hc => by
    have hc0 := hc
    rw [List.all_cons, Bool.and_eq_true] at hc
    cases hp : m.isPrefixOf (c :: cs)
    · cases m with
      | nil => cases hp
      | cons x m =>
        have hmx := hm
        rw [List.all_cons, Bool.and_eq_true] at hmx
        obtain ⟨b, t, e, hb⟩ := write_lead (m := m) hmx.1
        obtain ⟨b0, t0, e0, _, ht0⟩ := one_lead hc.1
        have hpw := pre_write hm hc0
        rw [hp, writeL_cons c, e0, List.cons_append] at hpw
        have hstep : Lib.index (writeL (c :: cs)) (writeL (x :: m)) = if Lib.index (writeL cs) (writeL (x :: m)) = -1 then -1 else Lib.index (writeL cs) (writeL (x :: m)) + (oneL c).length := by
          rw [writeL_cons c, e0, List.cons_append, Lib.index, if_neg (by rw [hpw]; decide), e, index_skip hb t0 ht0]
          have hge := Lib.index_ge (writeL cs) (b :: t)
          by_cases h : Lib.index (writeL cs) (b :: t) = -1
          · rw [if_pos h, if_pos h]; rfl
          · rw [if_neg h, if_neg h, if_neg (by simp; omega), List.length_cons]; omega
        rcases index_chars hm hc.2 with ⟨h1, h2⟩ | ⟨k, h1, h2, h3, h4⟩
        · refine .inl ⟨by rw [hstep, if_pos h1], fun k hk => ?_⟩
          cases k with
          | zero => exact hp
          | succ k => exact h2 k (by simp at hk; omega)
        · refine .inr ⟨k + 1, by simp; omega, ?_, h3, fun j hj => ?_⟩
          · rw [hstep, if_neg (by rw [h2]; omega), h2, List.take_succ_cons, writeL_cons, List.length_append]; omega
          · cases j with
            | zero => exact hp
            | succ j => exact h4 j (by omega)
    · refine .inr ⟨0, Nat.zero_le _, ?_, hp, fun j h => absurd h (Nat.not_lt_zero _)⟩
      have hpw := pre_write hm hc0
      obtain ⟨b0, t0, e0, _, _⟩ := one_lead hc.1
      rw [hp, writeL_cons c, e0, List.cons_append] at hpw
      rw [writeL_cons c, e0, List.cons_append, Lib.index, if_pos hpw]; rfl
end Go.Proofs.YtlacfknoanjlpaaDoor
