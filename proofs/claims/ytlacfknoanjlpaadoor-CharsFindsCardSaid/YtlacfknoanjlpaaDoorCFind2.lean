/- The last place, by bytes and by characters; the plain answers. Names no function of the program. -/
import Derived.Test.YtlacfknoanjlpaaDoorCFind
import Derived.Lib.LastIndexLaws
namespace Go.Proofs.YtlacfknoanjlpaaDoor
open Go.RowKit
theorem occ_bnd {m : List Int} (hm : m.all isCh = true) (hne : m ≠ []) : ∀ {cs : List Int} {p : Nat}, cs.all isCh = true → Lib.occAt (writeL cs) (writeL m) p = true →
    ∃ k, k ≤ cs.length ∧ p = (writeL (cs.take k)).length ∧ m.isPrefixOf (cs.drop k) = true
  | [], p, _, h => by
    obtain ⟨x, m', rfl⟩ : ∃ x m', m = x :: m' := by cases m with
      | nil => exact absurd rfl hne
      | cons x m' => exact ⟨x, m', rfl⟩
    rw [List.all_cons, Bool.and_eq_true] at hm
    obtain ⟨b, t, e, _⟩ := write_lead (m := m') hm.1
    unfold Lib.occAt at h
    rw [e, show writeL [] = [] from rfl, List.drop_nil] at h
    cases h
  | c :: cs, p, hc, h => by
    have hc0 := hc
    rw [List.all_cons, Bool.and_eq_true] at hc
    by_cases hp : p < (oneL c).length
    · cases p with
      | zero =>
        unfold Lib.occAt at h
        rw [List.drop_zero, pre_write hm hc0] at h
        exact ⟨0, Nat.zero_le _, rfl, h⟩
      | succ p =>
        exfalso
        obtain ⟨x, m', rfl⟩ : ∃ x m', m = x :: m' := by cases m with
          | nil => exact absurd rfl hne
          | cons x m' => exact ⟨x, m', rfl⟩
        rw [List.all_cons, Bool.and_eq_true] at hm
        obtain ⟨b, t, e, hb⟩ := write_lead (m := m') hm.1
        obtain ⟨b0, t0, e0, _, ht0⟩ := one_lead hc.1
        unfold Lib.occAt at h
        rw [writeL_cons c, e0, List.cons_append, List.drop_succ_cons] at h
        rw [e0, List.length_cons] at hp
        have hl : p < t0.length := by omega
        rw [List.drop_append_of_le_length (by omega), List.drop_eq_getElem_cons hl, e] at h
        have hx := ht0 t0[p] (List.getElem_mem hl)
        have : b = t0[p] := by
          have h' : (b == t0[p] && t.isPrefixOf _) = true := h
          rw [Bool.and_eq_true] at h'
          exact eq_of_beq h'.1
        rw [← this, hb] at hx
        cases hx
    · unfold Lib.occAt at h
      rw [writeL_cons c, List.drop_append, List.drop_of_length_le (by omega), List.nil_append] at h
      obtain ⟨k, h1, h2, h3⟩ := occ_bnd hm hne hc.2 (p := p - (oneL c).length) h
      refine ⟨k + 1, by simp; omega, ?_, h3⟩
      rw [List.take_succ_cons, writeL_cons, List.length_append]
      omega
theorem off_lt {cs : List Int} {j k : Nat} (hk : k ≤ cs.length) (h : j < k) : (writeL (cs.take j)).length < (writeL (cs.take k)).length := by
  have e : (cs.take k).take j = cs.take j := by rw [List.take_take, Nat.min_eq_left (by omega)]
  have e2 : cs.take k = cs.take j ++ (cs.take k).drop j := by rw [← e, List.take_append_drop]
  rw [e2, writeL_app, List.length_append]
  have : 0 < ((cs.take k).drop j).length := by rw [List.length_drop, List.length_take]; omega
  obtain ⟨x, r, hx⟩ : ∃ x r, (cs.take k).drop j = x :: r := by
    cases hq : (cs.take k).drop j with
    | nil => rw [hq] at this; cases this
    | cons x r => exact ⟨x, r, rfl⟩
  rw [hx, writeL_cons, List.length_append]
  have := oneL_len x
  omega
theorem occ_take {S T : List UInt8} {n p : Nat} (h : p + T.length ≤ n) : Lib.occAt (S.take n) T p = Lib.occAt S T p := by
  unfold Lib.occAt
  rw [Bool.eq_iff_iff, List.isPrefixOf_iff_prefix, List.isPrefixOf_iff_prefix, List.drop_take, List.prefix_take_iff]
  constructor
  · exact fun h => h.1
  · exact fun h' => ⟨h', by omega⟩
theorem occ_len {S T : List UInt8} {p : Nat} (hT : 0 < T.length) (h : Lib.occAt S T p = true) : p + T.length ≤ S.length := by
  unfold Lib.occAt at h
  have := (List.isPrefixOf_iff_prefix.1 h).length_le
  rw [List.length_drop] at this
  omega
/-- the last place of characters, up to one -/
theorem last_chars {m cs : List Int} (hm : m.all isCh = true) (hc : cs.all isCh = true) {k0 : Nat} (hk : k0 ≤ cs.length) :
    (Lib.lastIndex ((writeL cs).take (min ((writeL (cs.take k0)).length + (writeL m).length) (writeL cs).length)) (writeL m) = -1 ∧ ∀ k, k ≤ k0 → m.isPrefixOf (cs.drop k) = false) ∨
    (∃ k, k ≤ k0 ∧ Lib.lastIndex ((writeL cs).take (min ((writeL (cs.take k0)).length + (writeL m).length) (writeL cs).length)) (writeL m) = ((writeL (cs.take k)).length : Int) ∧ m.isPrefixOf (cs.drop k) = true ∧ ∀ j, k < j → j ≤ k0 → m.isPrefixOf (cs.drop j) = false) := by
  have hko : (writeL (cs.take k0)).length ≤ (writeL cs).length := by
    have e : writeL cs = writeL (cs.take k0) ++ writeL (cs.drop k0) := by rw [← writeL_app, List.take_append_drop]
    rw [e, List.length_append]; omega
  have hpk : ∀ k, m.isPrefixOf (cs.drop k) = true → Lib.occAt (writeL cs) (writeL m) (writeL (cs.take k)).length = true := by
    intro k h
    have e : writeL cs = writeL (cs.take k) ++ writeL (cs.drop k) := by rw [← writeL_app, List.take_append_drop]
    unfold Lib.occAt
    rw [e, List.drop_left, pre_write hm (all_drop hc k)]; exact h
  by_cases hne : m = []
  · subst hne
    refine .inr ⟨k0, Nat.le_refl _, ?_, by cases cs.drop k0 <;> rfl, fun j h1 h2 => absurd h1 (by omega)⟩
    rw [show writeL [] = [] from rfl, List.length_nil, Nat.add_zero, Nat.min_eq_left hko]
    have hl : ((writeL cs).take (writeL (cs.take k0)).length).length = (writeL (cs.take k0)).length := by rw [List.length_take]; omega
    unfold Lib.lastIndex
    rw [hl, List.length_nil, if_pos (Nat.zero_le _), Nat.sub_zero, Lib.lastOcc_hit _ _ _ (by unfold Lib.occAt; rfl)]
  · have hT : 0 < (writeL m).length := by
      obtain ⟨x, m', rfl⟩ : ∃ x m', m = x :: m' := by cases m with
        | nil => exact absurd rfl hne
        | cons x m' => exact ⟨x, m', rfl⟩
      rw [writeL_cons, List.length_append]; have := oneL_len x; omega
    have hlen : ((writeL cs).take (min ((writeL (cs.take k0)).length + (writeL m).length) (writeL cs).length)).length = min ((writeL (cs.take k0)).length + (writeL m).length) (writeL cs).length := by
      rw [List.length_take]; omega
    generalize hn : min ((writeL (cs.take k0)).length + (writeL m).length) (writeL cs).length = n at *
    unfold Lib.lastIndex
    rw [hlen]
    by_cases hle : (writeL m).length ≤ n
    · rw [if_pos hle]
      have ot : ∀ p, p < n - (writeL m).length + 1 → Lib.occAt ((writeL cs).take n) (writeL m) p = Lib.occAt (writeL cs) (writeL m) p := fun p hp => occ_take (by omega)
      have inside : ∀ k, k ≤ k0 → m.isPrefixOf (cs.drop k) = true → (writeL (cs.take k)).length < n - (writeL m).length + 1 := by
        intro k h1 h2
        have h3 := occ_len hT (hpk k h2)
        have h4 : (writeL (cs.take k)).length ≤ (writeL (cs.take k0)).length := by
          rcases Nat.lt_or_ge k k0 with h | h
          · exact Nat.le_of_lt (off_lt hk h)
          · rw [show k = k0 by omega]; exact Nat.le_refl _
        omega
      rcases Lib.lastOcc_spec ((writeL cs).take n) (writeL m) (n - (writeL m).length + 1) with ⟨e, hnn⟩ | ⟨i, hi, e, ho, hnn⟩
      · refine .inl ⟨e, fun k hk' => ?_⟩
        cases hq : m.isPrefixOf (cs.drop k)
        · rfl
        · have h1 := inside k hk' hq
          have h2 := hnn _ h1
          rw [ot _ h1, hpk k hq] at h2; cases h2
      · rw [ot i hi] at ho
        obtain ⟨k, h1, h2, h3⟩ := occ_bnd hm hne hc ho
        have hkk : k ≤ k0 := by
          rcases Nat.lt_or_ge k0 k with h | h
          · have := off_lt h1 h; omega
          · exact h
        refine .inr ⟨k, hkk, by rw [e, h2], h3, fun j hj1 hj2 => ?_⟩
        cases hq : m.isPrefixOf (cs.drop j)
        · rfl
        · have h5 := inside j hj2 hq
          have h6 := hnn _ (by rw [h2]; exact off_lt (by omega) hj1) h5
          rw [ot _ h5, hpk j hq] at h6; cases h6
    · rw [if_neg hle]
      refine .inl ⟨rfl, fun k hk' => ?_⟩
      cases hq : m.isPrefixOf (cs.drop k)
      · rfl
      · have h3 := occ_len hT (hpk k hq)
        omega
/-- the plain answers -/
def fstL (m cs : List Int) : Nat → Nat → Int
  | 0, _ => -1
  | n + 1, k => if m.isPrefixOf (cs.drop k) = true then (k : Int) else fstL m cs n (k + 1)
def lstL (m cs : List Int) : Nat → Int
  | 0 => if m.isPrefixOf cs = true then 0 else -1
  | k + 1 => if m.isPrefixOf (cs.drop (k + 1)) = true then ((k + 1 : Nat) : Int) else lstL m cs k
theorem fstL_none {m cs : List Int} : ∀ n k, (∀ j, k ≤ j → j < k + n → m.isPrefixOf (cs.drop j) = false) → fstL m cs n k = -1
  | 0, _, _ => rfl
  | n + 1, k, h => by
    rw [fstL, if_neg (by rw [h k (Nat.le_refl _) (by omega)]; decide)]
    exact fstL_none n (k + 1) (fun j h1 h2 => h j (by omega) (by omega))
theorem fstL_some {m cs : List Int} {i : Nat} (hi : m.isPrefixOf (cs.drop i) = true) : ∀ n k, k ≤ i → i < k + n → (∀ j, k ≤ j → j < i → m.isPrefixOf (cs.drop j) = false) → fstL m cs n k = i
  | 0, _, h1, h2, _ => by omega
  | n + 1, k, h1, h2, h => by
    by_cases e : k = i
    · subst e; rw [fstL, if_pos hi]
    · rw [fstL, if_neg (by rw [h k (Nat.le_refl _) (by omega)]; decide)]
      exact fstL_some hi n (k + 1) (by omega) (by omega) (fun j h1 h2 => h j (by omega) h2)
theorem lstL_none {m cs : List Int} : ∀ k, (∀ j, j ≤ k → m.isPrefixOf (cs.drop j) = false) → lstL m cs k = -1
  | 0, h => by rw [lstL, if_neg (by rw [show cs = cs.drop 0 from rfl, h 0 (Nat.le_refl _)]; decide)]
  | k + 1, h => by
    rw [lstL, if_neg (by rw [h (k + 1) (Nat.le_refl _)]; decide)]
    exact lstL_none k (fun j hj => h j (by omega))
theorem lstL_some {m cs : List Int} {i : Nat} (hi : m.isPrefixOf (cs.drop i) = true) : ∀ k, i ≤ k → (∀ j, i < j → j ≤ k → m.isPrefixOf (cs.drop j) = false) → lstL m cs k = i
  | 0, h1, _ => by
    obtain rfl : i = 0 := by omega
    rw [lstL, if_pos (by exact hi)]; rfl
  | k + 1, h1, h => by
    by_cases e : i = k + 1
    · subst e; rw [lstL, if_pos hi]
    · rw [lstL, if_neg (by rw [h (k + 1) (by omega) (Nat.le_refl _)]; decide)]
      exact lstL_some hi k (by omega) (fun j h1 h2 => h j h1 (by omega))
end Go.Proofs.YtlacfknoanjlpaaDoor
