/- Texts as characters: writing undoes reading, and reading undoes writing. Plain functions; names no function of the program. -/
import Derived.Test.YtaoehbnjipegoaaDoorCUtf
namespace Go.Proofs.YtaoehbnjipegoaaDoor
def by8 (n : Int) : UInt8 := UInt8.ofNat n.toNat
/-- the bytes of a character -/
def oneL (c : Int) : List UInt8 := if c < 128 then [by8 c] else if c < 2048 then [by8 (192 + c / 64), by8 (128 + c % 64)]
  else if c < 65536 then [by8 (224 + c / 4096), by8 (128 + c / 64 % 64), by8 (128 + c % 64)]
  else [by8 (240 + c / 262144), by8 (128 + c / 4096 % 64), by8 (128 + c / 64 % 64), by8 (128 + c % 64)]
theorem one1 {c : Int} (h : c < 128) : oneL c = [by8 c] := if_pos h
theorem one2 {c : Int} (h : ¬ c < 128) (h2 : c < 2048) : oneL c = [by8 (192 + c / 64), by8 (128 + c % 64)] := (if_neg h).trans (if_pos h2)
theorem one3 {c : Int} (h : ¬ c < 128) (h2 : ¬ c < 2048) (h3 : c < 65536) : oneL c = [by8 (224 + c / 4096), by8 (128 + c / 64 % 64), by8 (128 + c % 64)] := (if_neg h).trans ((if_neg h2).trans (if_pos h3))
theorem one4 {c : Int} (h : ¬ c < 128) (h2 : ¬ c < 2048) (h3 : ¬ c < 65536) : oneL c = [by8 (240 + c / 262144), by8 (128 + c / 4096 % 64), by8 (128 + c / 64 % 64), by8 (128 + c % 64)] :=
  (if_neg h).trans ((if_neg h2).trans (if_neg h3))
theorem by8_to {n : Int} (h0 : 0 ≤ n) (h1 : n < 256) : ((by8 n).toNat : Int) = n := by
  unfold by8
  rw [UInt8.toNat_ofNat']
  have : n.toNat % 2 ^ 8 = n.toNat := Nat.mod_eq_of_lt (by show n.toNat < 256; omega)
  rw [this]; omega
theorem by8_of (b : UInt8) {n : Int} (h : n = (b.toNat : Int)) : by8 n = b := by
  subst h
  unfold by8
  rw [Int.toNat_natCast, UInt8.ofNat_toNat]
theorem isCh_true {c : Int} : isCh c = true ↔ 0 ≤ c ∧ c ≤ 1114111 ∧ ¬ (55296 ≤ c ∧ c ≤ 57343) := by
  unfold isCh; simp [and_assoc]; omega
theorem goes_true {x : Int} : goesB x = true ↔ 128 ≤ x ∧ x < 192 := by simp [goesB]
theorem made_some {n : Nat} {m c : Int} (h1 : ¬ c < m) (h2 : isCh c = true) : made n m (some c) = (c, n) := by
  show (if c < m ∨ isCh c = false then ((0, 0) : Int × Nat) else (c, n)) = _
  exact if_neg (by rw [h2]; rintro (h | h); exact h1 h; cases h)
theorem made_out {n : Nat} {m : Int} {o : Option Int} (h : (made n m o).2 ≠ 0) : ∃ c, o = some c ∧ ¬ c < m ∧ isCh c = true ∧ made n m o = (c, n) := by
  cases o with
  | none => exact absurd rfl h
  | some c =>
    by_cases h1 : c < m ∨ isCh c = false
    · have : made n m (some c) = (0, 0) := if_pos h1
      rw [this] at h; exact absurd rfl h
    · have h2 : isCh c = true := by
        cases hc : isCh c
        · exact absurd (.inr hc) h1
        · rfl
      exact ⟨c, rfl, fun h => h1 (.inl h), h2, made_some (fun h => h1 (.inl h)) h2⟩
/-- reading undoes writing, a character -/
theorem first_one {c : Int} (hc : isCh c = true) (r : List UInt8) : firstL (oneL c ++ r) = (c, (oneL c).length) ∧ (oneL c).length ≠ 0 := by
  have hb := isCh_true.1 hc
  by_cases h1 : c < 128
  · rw [one1 h1]
    refine ⟨?_, by simp⟩
    rw [List.cons_append, firstL_cons, by8_to (by omega) (by omega), firstC_one h1]; rfl
  by_cases h2 : c < 2048
  · rw [one2 h1 h2]
    refine ⟨?_, by simp⟩
    obtain ⟨-, -, e1, e2, e3⟩ : 192 ≤ 192 + c / 64 ∧ 192 + c / 64 < 224 ∧ leadN (192 + c / 64) = 2 ∧ leadC (192 + c / 64) = 192 + c / 64 - 192 ∧ leadM (192 + c / 64) = 128 := by
      rcases lead_cases (192 + c / 64) with h | h | h | h | h <;> first | exact h | (exfalso; omega)
    have g1 := by8_to (n := 128 + c % 64) (by omega) (by omega)
    rw [List.cons_append, firstL_cons, by8_to (by omega) (by omega), firstC_made (by omega) (by rw [e1]; simp), e1, e2, e3]
    show made 2 128 (cont [by8 (128 + c % 64)] _) = _
    rw [cont_on (by rw [g1, goes_true]; omega), g1, cont, made_some (by omega) (by rw [show (192 + c / 64 - 192) * 64 + (128 + c % 64) - 128 = c by omega]; exact hc),
      show (192 + c / 64 - 192) * 64 + (128 + c % 64) - 128 = c by omega]
    rfl
  by_cases h3 : c < 65536
  · rw [one3 h1 h2 h3]
    refine ⟨?_, by simp⟩
    obtain ⟨-, -, e1, e2, e3⟩ : 224 ≤ 224 + c / 4096 ∧ 224 + c / 4096 < 240 ∧ leadN (224 + c / 4096) = 3 ∧ leadC (224 + c / 4096) = 224 + c / 4096 - 224 ∧ leadM (224 + c / 4096) = 2048 := by
      rcases lead_cases (224 + c / 4096) with h | h | h | h | h <;> first | exact h | (exfalso; omega)
    have g1 := by8_to (n := 128 + c % 64) (by omega) (by omega)
    have g2 := by8_to (n := 128 + c / 64 % 64) (by omega) (by omega)
    have ev : ((224 + c / 4096 - 224) * 64 + (128 + c / 64 % 64) - 128) * 64 + (128 + c % 64) - 128 = c := by omega
    rw [List.cons_append, firstL_cons, by8_to (by omega) (by omega), firstC_made (by omega) (by rw [e1]; simp), e1, e2, e3]
    show made 3 2048 (cont [by8 (128 + c / 64 % 64), by8 (128 + c % 64)] _) = _
    rw [cont_on (by rw [g2, goes_true]; omega), g2, cont_on (by rw [g1, goes_true]; omega), g1, cont, ev, made_some (by omega) hc]
    rfl
  · rw [one4 h1 h2 h3]
    refine ⟨?_, by simp⟩
    obtain ⟨-, -, e1, e2, e3⟩ : 240 ≤ 240 + c / 262144 ∧ 240 + c / 262144 < 248 ∧ leadN (240 + c / 262144) = 4 ∧ leadC (240 + c / 262144) = 240 + c / 262144 - 240 ∧ leadM (240 + c / 262144) = 65536 := by
      rcases lead_cases (240 + c / 262144) with h | h | h | h | h <;> first | exact h | (exfalso; omega)
    have g1 := by8_to (n := 128 + c % 64) (by omega) (by omega)
    have g2 := by8_to (n := 128 + c / 64 % 64) (by omega) (by omega)
    have g3 := by8_to (n := 128 + c / 4096 % 64) (by omega) (by omega)
    have ev : (((240 + c / 262144 - 240) * 64 + (128 + c / 4096 % 64) - 128) * 64 + (128 + c / 64 % 64) - 128) * 64 + (128 + c % 64) - 128 = c := by omega
    rw [List.cons_append, firstL_cons, by8_to (by omega) (by omega), firstC_made (by omega) (by rw [e1]; simp), e1, e2, e3]
    show made 4 65536 (cont [by8 (128 + c / 4096 % 64), by8 (128 + c / 64 % 64), by8 (128 + c % 64)] _) = _
    rw [cont_on (by rw [g3, goes_true]; omega), g3, cont_on (by rw [g2, goes_true]; omega), g2, cont_on (by rw [g1, goes_true]; omega), g1, cont, ev, made_some (by omega) hc]
    rfl
theorem cont_out {x : UInt8} {r : List UInt8} {c d : Int} (h : cont (x :: r) c = some d) : goesB (x.toNat : Int) = true ∧ cont r (c * 64 + (x.toNat : Int) - 128) = some d := by
  cases hx : goesB (x.toNat : Int)
  · rw [cont_no hx] at h; cases h
  · rw [cont_on hx] at h; exact ⟨rfl, h⟩
/-- writing undoes reading, a character -/
theorem one_first {l : List UInt8} (hn : (firstL l).2 ≠ 0) : isCh (firstL l).1 = true ∧ oneL (firstL l).1 = l.take (firstL l).2 := by
  cases l with
  | nil => exact absurd rfl hn
  | cons b r =>
    rw [firstL_cons] at hn ⊢
    have hb := b.toNat_lt
    by_cases h : (b.toNat : Int) < 128
    · rw [firstC_one h]
      exact ⟨isCh_true.2 (by omega), by rw [one1 h, by8_of b rfl]; rfl⟩
    by_cases h0 : leadN b.toNat = 0 ∨ r.length + 1 < leadN b.toNat
    · rw [firstC_no h h0] at hn; exact absurd rfl hn
    rw [firstC_made h h0] at hn ⊢
    obtain ⟨c, e1, e2, e3, e4⟩ := made_out hn
    rw [e4]
    refine ⟨e3, ?_⟩
    rcases lead_cases (b.toNat : Int) with ⟨b1, b2, f1, f2, f3⟩ | ⟨b1, b2, f1, f2, f3⟩ | ⟨b1, b2, f1, f2, f3⟩ | ⟨_, f1⟩ | ⟨_, f1⟩
    case inr.inr.inr.inl => exact absurd (.inl f1) h0
    case inr.inr.inr.inr => exact absurd (.inl f1) h0
    · rw [f1] at h0 e1; rw [f2] at e1; rw [f3] at e2; rw [f1]
      rcases r with _ | ⟨x, r⟩
      · simp at h0
      have e1' : cont [x] ((b.toNat : Int) - 192) = some c := e1
      obtain ⟨g, e5⟩ := cont_out e1'
      have hg := goes_true.1 g
      have hc : ((b.toNat : Int) - 192) * 64 + (x.toNat : Int) - 128 = c := Option.some.inj e5
      show oneL c = [b, x]
      rw [one2 (by omega) (by omega), by8_of b (by omega), by8_of x (by omega)]
    · rw [f1] at h0 e1; rw [f2] at e1; rw [f3] at e2; rw [f1]
      rcases r with _ | ⟨x, _ | ⟨y, r⟩⟩
      · simp at h0
      · simp at h0
      have e1' : cont [x, y] ((b.toNat : Int) - 224) = some c := e1
      obtain ⟨g, e5⟩ := cont_out e1'
      obtain ⟨g', e6⟩ := cont_out e5
      have hg := goes_true.1 g
      have hg' := goes_true.1 g'
      have hc : (((b.toNat : Int) - 224) * 64 + (x.toNat : Int) - 128) * 64 + (y.toNat : Int) - 128 = c := Option.some.inj e6
      show oneL c = [b, x, y]
      rw [one3 (by omega) (by omega) (by omega), by8_of b (by omega), by8_of x (by omega), by8_of y (by omega)]
    · rw [f1] at h0 e1; rw [f2] at e1; rw [f3] at e2; rw [f1]
      rcases r with _ | ⟨x, _ | ⟨y, _ | ⟨z, r⟩⟩⟩
      · simp at h0
      · simp at h0
      · simp at h0
      have e1' : cont [x, y, z] ((b.toNat : Int) - 240) = some c := e1
      obtain ⟨g, e5⟩ := cont_out e1'
      obtain ⟨g', e6⟩ := cont_out e5
      obtain ⟨g'', e7⟩ := cont_out e6
      have hg := goes_true.1 g
      have hg' := goes_true.1 g'
      have hg'' := goes_true.1 g''
      have hc : ((((b.toNat : Int) - 240) * 64 + (x.toNat : Int) - 128) * 64 + (y.toNat : Int) - 128) * 64 + (z.toNat : Int) - 128 = c := Option.some.inj e7
      show oneL c = [b, x, y, z]
      rw [one4 (by omega) (by omega) (by omega), by8_of b (by omega), by8_of x (by omega), by8_of y (by omega), by8_of z (by omega)]
/-- the text of characters -/
def writeL (cs : List Int) : List UInt8 := cs.flatMap oneL
theorem writeL_cons (c : Int) (cs : List Int) : writeL (c :: cs) = oneL c ++ writeL cs := List.flatMap_cons
theorem write_runes (l : List UInt8) (h : (validL l).2 = true) : writeL (runesL l) = l := by
  induction hk : l.length using Nat.strongRecOn generalizing l with
  | ind k ih =>
    by_cases h0 : l = []
    · subst h0; rw [runesL_nil]; rfl
    · by_cases hn : (firstL l).2 = 0
      · rw [validL_no h0 hn] at h; cases h
      · rw [validL_on h0 hn] at h
        have hp := List.length_pos_iff.2 h0
        rw [runesL_on h0 hn, writeL_cons, ih _ (by rw [List.length_drop]; omega) _ h rfl, (one_first hn).2, List.take_append_drop]
theorem runes_write (cs : List Int) (h : cs.all isCh = true) : runesL (writeL cs) = cs ∧ validL (writeL cs) = ((writeL cs).length, true) := by
  induction cs with
  | nil => exact ⟨runesL_nil, validL_nil⟩
  | cons c cs ih =>
    rw [List.all_cons, Bool.and_eq_true] at h
    obtain ⟨i1, i2⟩ := ih h.2
    obtain ⟨e1, e2⟩ := first_one h.1 (writeL cs)
    rw [writeL_cons]
    have h0 : oneL c ++ writeL cs ≠ [] := by
      intro h; rw [List.append_eq_nil_iff] at h; rw [h.1] at e2; exact e2 rfl
    have hn : (firstL (oneL c ++ writeL cs)).2 ≠ 0 := by rw [e1]; exact e2
    rw [runesL_on h0 hn, validL_on h0 hn, e1]
    simp only [List.drop_left]
    rw [i1, i2, List.length_append]
    exact ⟨rfl, rfl⟩
theorem runes_ch (l : List UInt8) : (runesL l).all isCh = true := by
  induction hk : l.length using Nat.strongRecOn generalizing l with
  | ind k ih =>
    by_cases h0 : l = []
    · subst h0; rw [runesL_nil]; rfl
    · by_cases hn : (firstL l).2 = 0
      · rw [runesL_no h0 hn]; rfl
      · have hp := List.length_pos_iff.2 h0
        rw [runesL_on h0 hn, List.all_cons, (one_first hn).1, ih _ (by rw [List.length_drop]; omega) _ rfl]; rfl
end Go.Proofs.YtaoehbnjipegoaaDoor
