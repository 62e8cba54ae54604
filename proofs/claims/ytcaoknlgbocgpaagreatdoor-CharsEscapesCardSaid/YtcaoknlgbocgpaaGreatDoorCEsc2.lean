/- Escapes: texts split at a byte, digits between braces. Plain functions; names no function of the program. -/
import Derived.Test.YtcaoknlgbocgpaaGreatDoorCEsc
namespace Go.Proofs.YtcaoknlgbocgpaaGreatDoor
/-- what stands before the first byte c, and behind it -/
def splitC (c : UInt8) : List UInt8 → Option (List UInt8 × List UInt8)
  | [] => none
  | x :: r => if x = c then some ([], r) else (splitC c r).map fun p => (x :: p.1, p.2)
theorem splitC_some {c : UInt8} : ∀ {l a b : List UInt8}, splitC c l = some (a, b) → l = a ++ c :: b ∧ c ∉ a
  | [], a, b, h => by cases h
  | x :: r, a, b, h => by
    rw [splitC] at h
    by_cases hx : x = c
    · rw [if_pos hx] at h
      injection h with h; injection h with h1 h2
      subst h1 h2 hx
      exact ⟨rfl, by simp⟩
    · rw [if_neg hx] at h
      cases hs : splitC c r with
      | none => rw [hs] at h; cases h
      | some p =>
        rw [hs] at h
        injection h with h; injection h with h1 h2
        obtain ⟨e, n⟩ := splitC_some (a := p.1) (b := p.2) hs
        subst h1 h2
        refine ⟨by rw [e]; rfl, ?_⟩
        rw [List.mem_cons, not_or]
        exact ⟨fun h => hx h.symm, n⟩
theorem splitC_none {c : UInt8} : ∀ {l : List UInt8}, splitC c l = none → c ∉ l
  | [], _ => by simp
  | x :: r, h => by
    rw [splitC] at h
    by_cases hx : x = c
    · rw [if_pos hx] at h; cases h
    · rw [if_neg hx] at h
      cases hs : splitC c r with
      | none =>
        rw [List.mem_cons, not_or]
        exact ⟨fun h => hx h.symm, splitC_none hs⟩
      | some p => rw [hs] at h; cases h
theorem splitC_of {c : UInt8} : ∀ {a : List UInt8} (b : List UInt8), c ∉ a → splitC c (a ++ c :: b) = some (a, b)
  | [], b, _ => by show splitC c (c :: b) = _; rw [splitC, if_pos rfl]
  | x :: a, b, h => by
    rw [List.mem_cons, not_or] at h
    show splitC c (x :: (a ++ c :: b)) = _
    rw [splitC, if_neg (fun e => h.1 e.symm), splitC_of b h.2]; rfl
theorem unesc_app {a : List UInt8} (h : (92 : UInt8) ∉ a) (r : List UInt8) : unescL (a ++ r) = (unescL r).map (a ++ ·) := by
  induction a with
  | nil => show unescL r = _; cases unescL r <;> rfl
  | cons x a ih =>
    rw [List.mem_cons, not_or] at h
    show unescL (x :: (a ++ r)) = _
    rw [unescL_byte (fun e => h.1 e.symm), ih h.2]
    cases unescL r <;> rfl
theorem unesc_plain {a : List UInt8} (h : (92 : UInt8) ∉ a) : unescL a = some a := by
  have := unesc_app h []
  rw [List.append_nil, unescL_nil] at this
  rw [this]
  show some (a ++ []) = _
  rw [List.append_nil]
/-- the character behind a backslash, and what is left -/
def unesc1 (r : List UInt8) : Option (Int × List UInt8) :=
  if r.head? = some 92 then some (92, r.drop 1) else if (braced r).2 = 0 then none else some ((braced r).1, r.drop (braced r).2)
theorem unescL_back (r : List UInt8) : unescL (92 :: r) = match unesc1 r with | none => none | some p => (unescL p.2).map (oneL p.1 ++ ·) := by
  unfold unesc1
  by_cases h : r.head? = some 92
  · rw [if_pos h]
    obtain ⟨t, rfl⟩ : ∃ t, r = 92 :: t := by
      cases r with
      | nil => cases h
      | cons x t => exact ⟨t, by simp at h; rw [h]⟩
    rw [unescL_two]; rfl
  · rw [if_neg h]
    by_cases hb : (braced r).2 = 0
    · rw [if_pos hb, unescL_no h hb]
    · rw [if_neg hb, unescL_brace h hb]
def hexB (x : UInt8) : Bool := decide (0 ≤ hexV (x.toNat : Int))
def valF (c : Int) (d : List UInt8) : Int := d.foldl (fun a x => a * 16 + hexV (x.toNat : Int)) c
theorem hexV_ge (b : Int) : -1 ≤ hexV b ∧ hexV b < 16 := by
  unfold hexV
  split
  · omega
  split
  · omega
  split <;> omega
theorem hexRun_all (m : Nat) : ∀ (d t : List UInt8) (c : Int), d.all hexB = true → d.length ≤ m → hexRun m (d ++ t) c = ((hexRun (m - d.length) t (valF c d)).1, (hexRun (m - d.length) t (valF c d)).2 + d.length)
  | [], t, c, _, _ => rfl
  | x :: d, t, c, h, hm => by
    rw [List.all_cons, Bool.and_eq_true] at h
    have hx : ¬ hexV (x.toNat : Int) < 0 := by have := of_decide_eq_true h.1; omega
    have hm' : d.length + 1 ≤ m := hm
    obtain ⟨k, rfl⟩ : ∃ k, m = k + 1 := ⟨m - 1, by omega⟩
    show hexRun (k + 1) (x :: (d ++ t)) c = _
    rw [hexRun_on k hx, hexRun_all k d t _ h.2 (by omega)]
    show (_, _ + 1) = _
    have e : k + 1 - (x :: d).length = k - d.length := by simp
    rw [e]
    rfl
theorem hexRun_facts (m : Nat) : ∀ (l : List UInt8) (c : Int), (hexRun m l c).2 ≤ m ∧ (hexRun m l c).2 ≤ l.length ∧ (l.take (hexRun m l c).2).all hexB = true := by
  induction m with
  | zero => intro l c; exact ⟨Nat.le_refl _, Nat.zero_le _, rfl⟩
  | succ m ih =>
    intro l c
    cases l with
    | nil => exact ⟨Nat.zero_le _, Nat.le_refl _, rfl⟩
    | cons x r =>
      by_cases hx : hexV (x.toNat : Int) < 0
      · rw [hexRun_stop _ hx]; exact ⟨Nat.zero_le _, Nat.zero_le _, rfl⟩
      · rw [hexRun_on m hx]
        obtain ⟨h1, h2, h3⟩ := ih r (c * 16 + hexV (x.toNat : Int))
        refine ⟨by show _ + 1 ≤ _; omega, by show _ + 1 ≤ (x :: r).length; simp; omega, ?_⟩
        show ((x :: r).take (_ + 1)).all hexB = true
        rw [List.take_succ_cons, List.all_cons, h3, Bool.and_true]
        exact decide_eq_true (by omega)
theorem hex_125 : hexB 125 = false := by decide
theorem valF_bound (d : List UInt8) (h : d.all hexB = true) : ∀ c : Int, 0 ≤ c → 0 ≤ valF c d ∧ valF c d < (c + 1) * 16 ^ d.length := by
  induction d with
  | nil => intro c hc; show 0 ≤ c ∧ c < (c + 1) * 16 ^ 0; omega
  | cons x d ih =>
    intro c hc
    rw [List.all_cons, Bool.and_eq_true] at h
    have hx : 0 ≤ hexV (x.toNat : Int) := of_decide_eq_true h.1
    have hx2 := (hexV_ge (x.toNat : Int)).2
    obtain ⟨i1, i2⟩ := ih h.2 (c * 16 + hexV (x.toNat : Int)) (by omega)
    refine ⟨i1, Int.lt_of_lt_of_le i2 ?_⟩
    show (c * 16 + hexV (x.toNat : Int) + 1) * 16 ^ d.length ≤ (c + 1) * 16 ^ (d.length + 1)
    rw [Int.pow_succ, ← Int.mul_assoc, Int.mul_right_comm]
    exact Int.mul_le_mul_of_nonneg_right (by omega) (Int.pow_nonneg (by decide))
/-- hexadecimal digits that are a number -/
def hexOk (d : List UInt8) : Bool := !d.isEmpty && d.all hexB
theorem braced_no {r : List UInt8} (h : ¬ r.take 2 = [120, 123]) : braced r = (0, 0) := by unfold braced; rw [if_neg h]
theorem braced_none {i : List UInt8} (h : splitC 125 i = none) : braced (120 :: 123 :: i) = (0, 0) := by
  have hn := splitC_none h
  unfold braced
  rw [if_pos (show (120 :: 123 :: i).take 2 = [120, 123] from rfl)]
  split
  · rfl
  · rw [if_neg]
    rintro ⟨h1, _⟩
    apply hn
    have h2 : (i.drop (hexRun 6 i 0).2).head? = some 125 := by
      have e : (120 :: 123 :: i).drop (2 + (hexRun 6 ((120 :: 123 :: i).drop 2) 0).2) = i.drop (hexRun 6 i 0).2 := by
        rw [show 2 + (hexRun 6 ((120 :: 123 :: i).drop 2) 0).2 = (hexRun 6 i 0).2 + 1 + 1 by show 2 + (hexRun 6 i 0).2 = _; omega]
        rfl
      rw [e] at h1; exact h1
    exact List.mem_of_mem_drop (List.mem_of_mem_head? h2)
theorem braced_some {i d b : List UInt8} (h : splitC 125 i = some (d, b)) :
    braced (120 :: 123 :: i) = if (d.length ≤ 6 ∧ hexOk d = true) ∧ isCh (valF 0 d) = true then (valF 0 d, d.length + 3) else (0, 0) := by
  obtain ⟨rfl, hn⟩ := splitC_some h
  unfold braced
  rw [if_pos (show (120 :: 123 :: (d ++ 125 :: b)).take 2 = [120, 123] from rfl)]
  show (if (hexRun 6 (d ++ 125 :: b) 0).2 = 0 then (0, 0) else if ((120 :: 123 :: (d ++ 125 :: b)).drop (2 + (hexRun 6 (d ++ 125 :: b) 0).2)).head? = some 125 ∧ isCh (hexRun 6 (d ++ 125 :: b) 0).1 = true then ((hexRun 6 (d ++ 125 :: b) 0).1, (hexRun 6 (d ++ 125 :: b) 0).2 + 3) else (0, 0)) = _
  have hdr : ∀ k, (120 :: 123 :: (d ++ 125 :: b)).drop (2 + k) = (d ++ 125 :: b).drop k := by
    intro k; rw [show 2 + k = k + 1 + 1 by omega]; rfl
  rw [hdr]
  by_cases hd : d.length ≤ 6 ∧ d.all hexB = true
  · have hr := hexRun_all 6 d (125 :: b) 0 hd.2 hd.1
    rw [hexRun_stop _ (by decide), Nat.zero_add] at hr
    rw [hr]
    by_cases h0 : d = []
    · subst h0
      rw [if_pos (show ((valF 0 [], ([] : List UInt8).length) : Int × Nat).2 = 0 from rfl), if_neg]
      rintro ⟨⟨_, h⟩, _⟩; cases h
    · have hl : d.length ≠ 0 := by simpa using h0
      have hok : hexOk d = true := by
        unfold hexOk; rw [hd.2, Bool.and_true]
        cases d with
        | nil => exact absurd rfl h0
        | cons x d => rfl
      rw [if_neg (show ¬ ((valF 0 d, d.length) : Int × Nat).2 = 0 from hl)]
      show (if ((d ++ 125 :: b).drop d.length).head? = some 125 ∧ isCh (valF 0 d) = true then _ else _) = _
      rw [List.drop_left]
      by_cases hc : isCh (valF 0 d) = true
      · rw [if_pos ⟨rfl, hc⟩, if_pos ⟨⟨hd.1, hok⟩, hc⟩]
      · rw [if_neg (fun h => hc h.2), if_neg (fun h => hc h.2)]
  · rw [if_neg (c := (d.length ≤ 6 ∧ hexOk d = true) ∧ isCh (valF 0 d) = true) (by
      rintro ⟨⟨h1, h2⟩, _⟩
      unfold hexOk at h2
      rw [Bool.and_eq_true] at h2
      exact hd ⟨h1, h2.2⟩)]
    obtain ⟨f1, f2, f3⟩ := hexRun_facts 6 (d ++ 125 :: b) 0
    generalize (hexRun 6 (d ++ 125 :: b) 0).2 = k at *
    split
    · rfl
    · rw [if_neg]
      rintro ⟨h1, _⟩
      apply hd
      -- the byte at k is 125: it is the first one
      have hk1 : d.length ≤ k := by
        rcases Nat.lt_or_ge k d.length with hlt | hge
        · exfalso
          rw [List.drop_append_of_le_length (by omega)] at h1
          have hne : d.drop k ≠ [] := by rw [ne_eq, List.drop_eq_nil_iff]; omega
          obtain ⟨x, t, hxt⟩ := List.exists_cons_of_ne_nil hne
          rw [hxt] at h1
          have hx : x = 125 := by simpa using h1
          have hm : x ∈ d.drop k := by rw [hxt]; exact List.mem_cons_self
          exact hn (hx ▸ List.mem_of_mem_drop hm)
        · exact hge
      have hk2 : ¬ d.length < k := by
        intro hlt
        have hmem : (125 : UInt8) ∈ (d ++ 125 :: b).take k := by
          rw [List.take_append, List.mem_append]
          right
          obtain ⟨j, hj⟩ : ∃ j, k - d.length = j + 1 := ⟨k - d.length - 1, by omega⟩
          rw [hj, List.take_succ_cons]; exact List.mem_cons_self
        have := List.all_eq_true.1 f3 _ hmem
        rw [hex_125] at this; cases this
      obtain rfl : k = d.length := by omega
      rw [List.take_left] at f3
      exact ⟨f1, f3⟩
theorem unesc_len (n : Nat) : ∀ l r : List UInt8, l.length ≤ n → unescL l = some r → r.length ≤ l.length := by
  induction n with
  | zero =>
    intro l r hl h
    obtain rfl : l = [] := List.eq_nil_of_length_eq_zero (by omega)
    rw [unescL_nil] at h; injection h with h; subst h; exact Nat.le_refl _
  | succ n ih =>
    intro l r hl h
    cases l with
    | nil => rw [unescL_nil] at h; injection h with h; subst h; exact Nat.le_refl _
    | cons x l =>
      have hl' : l.length ≤ n := by simpa using hl
      by_cases hx : x = 92
      · subst hx
        rw [unescL_back] at h
        unfold unesc1 at h
        by_cases h1 : l.head? = some 92
        · rw [if_pos h1] at h
          cases l with
          | nil => cases h1
          | cons y t =>
            have ht : t.length + 1 ≤ n := by simpa using hl'
            cases hu : unescL t with
            | none => simp [hu] at h
            | some q =>
              have := ih t q (by omega) hu
              simp [hu] at h
              subst h
              simp [oneL, by8]; omega
        · rw [if_neg h1] at h
          by_cases hb : (braced l).2 = 0
          · rw [if_pos hb] at h; cases h
          · rw [if_neg hb] at h
            simp only at h
            cases hu : unescL (l.drop (braced l).2) with
            | none => simp [hu] at h
            | some q =>
              have h4 : 4 ≤ (braced l).2 ∧ (braced l).2 ≤ l.length := by
                unfold braced at hb ⊢
                split at hb
                · split at hb
                  · exact absurd rfl hb
                  · split at hb
                    · rename_i a b c
                      rw [if_pos a, if_neg b, if_pos c]
                      obtain ⟨_, f2, _⟩ := hexRun_facts 6 (l.drop 2) 0
                      rw [List.length_drop] at f2
                      have : (l.drop (2 + (hexRun 6 (l.drop 2) 0).2)) ≠ [] := by
                        intro e; rw [e] at c; exact absurd c.1 (by simp)
                      rw [ne_eq, List.drop_eq_nil_iff] at this
                      show 4 ≤ _ + 3 ∧ _ + 3 ≤ _
                      omega
                    · exact absurd rfl hb
                · exact absurd rfl hb
              have := ih _ q (by rw [List.length_drop]; omega) hu
              rw [List.length_drop] at this
              simp [hu] at h
              subst h
              have ho : (oneL (braced l).1).length ≤ 4 := by
                unfold oneL; repeat' split
                all_goals simp
              rw [List.length_append, List.length_cons]
              omega
      · rw [unescL_byte hx] at h
        cases hu : unescL l with
        | none => rw [hu] at h; cases h
        | some q =>
          have := ih l q hl' hu
          rw [hu] at h
          injection h with h
          subst h
          simpa using this
end Go.Proofs.YtcaoknlgbocgpaaGreatDoor
