/- GLine GHere GSc -/
import Derived.Test.YthmopindibdhnaaDoorM05
import Derived.Maps.OwnSet
namespace Go.Proofs.YthmopindibdhnaaDoor.G
open Go.RowKit Go.Shelf
def nx (J : Nat → Option Nat) (a : Nat) : Nat := (J a).getD (a + 1)
def restF (l : List UInt8) (J : Nat → Option Nat) : Nat → Nat → Src
  | 0, _ => []
  | f + 1, a => match l[a]? with
    | none => []
    | some c => (a, c) :: restF l J f (nx J a)
def rest (l : List UInt8) (J : Nat → Option Nat) (a : Nat) : Src := restF l J l.length a
/-- lines alone go on elsewhere, and only further on -/
structure JOk (l : List UInt8) (J : Nat → Option Nat) : Prop where
  nl : ∀ a b, J a = some b → l[a]? = some 10
  lt : ∀ a b, J a = some b → a < b
  le : ∀ a b, J a = some b → b ≤ l.length
variable {l : List UInt8} {J : Nat → Option Nat} {a : Nat}
theorem nx_gt (h : JOk l J) (a : Nat) : a < nx J a := by
  unfold nx
  cases e : J a with
  | none => simp
  | some b => simpa using h.lt a b e
theorem nx_le (h : JOk l J) (ha : a < l.length) : nx J a ≤ l.length := by
  unfold nx
  cases e : J a with
  | none => simp; omega
  | some b => simpa using h.le a b e
theorem restF_eq (h : JOk l J) : ∀ f g a, l.length ≤ a + f → l.length ≤ a + g → restF l J f a = restF l J g a
  | 0, g, a, hf, _ => by
    cases g with
    | zero => rfl
    | succ g => rw [restF, restF, List.getElem?_eq_none (by omega)]
  | f + 1, 0, a, _, hg => by rw [restF, restF, List.getElem?_eq_none (by omega)]
  | f + 1, g + 1, a, hf, hg => by
    rw [restF, restF]
    cases e : l[a]? with
    | none => rfl
    | some c =>
      have := nx_gt h a
      simp only
      rw [restF_eq h f g (nx J a) (by omega) (by omega)]
theorem rest_nil (ha : l.length ≤ a) : rest l J a = [] := by
  unfold rest
  cases hn : l.length with
  | zero => rfl
  | succ n => rw [restF, List.getElem?_eq_none ha]
theorem rest_cons (h : JOk l J) (ha : a < l.length) : rest l J a = (a, l[a]) :: rest l J (nx J a) := by
  have hg := nx_gt h a
  unfold rest
  obtain ⟨n, hn⟩ : ∃ n, l.length = n + 1 := ⟨l.length - 1, by omega⟩
  rw [show restF l J l.length a = restF l J (n + 1) a by rw [hn], restF, List.getElem?_eq_getElem ha]
  simp only
  rw [restF_eq h n l.length (nx J a) (by omega) (by omega)]
theorem rest_ne (h : JOk l J) (ha : a < l.length) : rest l J a ≠ [] := by rw [rest_cons h ha]; simp
theorem rest_place (h : JOk l J) (ha : a < l.length) : place (rest l J a) = a := by rw [rest_cons h ha]; rfl
theorem rest_eqnil (h : JOk l J) : rest l J a = [] ↔ l.length ≤ a := by
  refine ⟨fun e => ?_, rest_nil⟩
  by_cases ha : a < l.length
  · exact absurd e (rest_ne h ha)
  · omega
/-- two texts are alike up to place m, and there they end, or a line does -/
def LEq (X Y : List UInt8) (m : Nat) : Prop := (∀ i, i ≤ m → X[i]? = Y[i]?) ∧ (X[m]? = none ∨ X[m]? = some 10)
theorem line_n (h : JOk l J) : ∀ n a, l.length - a ≤ n → ∃ m, LEq (l.drop a) (byt (rest l J a)) m ∧ ∀ i, i ≤ m → (rest l J a).drop i = rest l J (a + i)
  | n, a, hn => by
    by_cases ha : a < l.length
    · have hd : l.drop a = l[a] :: l.drop (a + 1) := List.drop_eq_getElem_cons ha
      have hr := rest_cons h ha
      by_cases h10 : l[a] = 10
      · refine ⟨0, ⟨fun i hi => ?_, .inr ?_⟩, fun i hi => ?_⟩
        · obtain rfl : i = 0 := by omega
          rw [hd, hr]; rfl
        · rw [hd, h10]; rfl
        · obtain rfl : i = 0 := by omega
          rfl
      · have hx : nx J a = a + 1 := by
          unfold nx
          cases e : J a with
          | none => rfl
          | some b =>
            have := h.nl a b e
            rw [List.getElem?_eq_getElem ha] at this
            exact absurd (Option.some.inj this) h10
        rw [hx] at hr
        obtain ⟨n, rfl⟩ : ∃ k, n = k + 1 := ⟨n - 1, by omega⟩
        obtain ⟨m, ⟨h1, h2⟩, h3⟩ := line_n h n (a + 1) (by omega)
        refine ⟨m + 1, ⟨fun i hi => ?_, ?_⟩, fun i hi => ?_⟩
        · cases i with
          | zero => rw [hd, hr]; rfl
          | succ i => rw [hd, hr]; exact h1 i (by omega)
        · rw [hd]; exact h2
        · cases i with
          | zero => rfl
          | succ i =>
            rw [hr, List.drop_succ_cons, h3 i (by omega)]
            congr 1; omega
    · rw [rest_nil (by omega), List.drop_eq_nil_of_le (by omega)]
      exact ⟨0, ⟨fun _ _ => rfl, .inl rfl⟩, fun i hi => by rw [rest_nil (by omega)]; simp⟩
theorem line (h : JOk l J) (a : Nat) : ∃ m, LEq (l.drop a) (byt (rest l J a)) m ∧ ∀ i, i ≤ m → (rest l J a).drop i = rest l J (a + i) := line_n h _ a (Nat.le_refl _)
variable {X Y : List UInt8} {m : Nat}
theorem LEq.eq_of_none (h : LEq X Y m) (hm : X[m]? = none) : X = Y := by
  have hl : X.length ≤ m := List.getElem?_eq_none_iff.1 hm
  have hm2 : Y[m]? = none := by rw [← h.1 m (Nat.le_refl _)]; exact hm
  have hl2 : Y.length ≤ m := List.getElem?_eq_none_iff.1 hm2
  refine List.ext_getElem? fun i => ?_
  by_cases hi : i ≤ m
  · exact h.1 i hi
  · rw [List.getElem?_eq_none (by omega), List.getElem?_eq_none (by omega)]
/-- before the line's end there is a byte further on -/
theorem LEq.lt (h : LEq X Y m) {n : Nat} {c : UInt8} (hn : n ≤ m) (hc : X[n]? = some c) (h10 : c ≠ 10) : n < m := by
  rcases Nat.lt_or_eq_of_le hn with h1 | rfl
  · exact h1
  · rcases h.2 with h2 | h2
    · rw [h2] at hc; cases hc
    · rw [h2] at hc; exact absurd (Option.some.inj hc).symm h10
theorem sep_as (l : List UInt8) (n : Nat) : sepAt l n = true ↔ l[n]? = some 58 ∧ l[n + 1]? = some 58 ∧ ∃ e, l[n + 2]? = some e ∧ alphaB e.toNat = true := by
  by_cases h : n + 2 < l.length
  · rw [sep_eq h, List.getElem?_eq_getElem (by omega : n < l.length), List.getElem?_eq_getElem (by omega : n + 1 < l.length), List.getElem?_eq_getElem h]
    simp [and_assoc]
  · rw [sep_short h, List.getElem?_eq_none (by omega : l.length ≤ n + 2)]
    simp
theorem sep_line (h : LEq X Y m) {n : Nat} (hn : n ≤ m) : sepAt X n = sepAt Y n := by
  rw [Bool.eq_iff_iff, sep_as, sep_as]
  by_cases h0 : X[n]? = some 58
  · have h1 := h.lt hn h0 (by decide)
    rw [h.1 n hn, h.1 (n + 1) (by omega)]
    by_cases h2 : X[n + 1]? = some 58
    · have h3 := h.lt (n := n + 1) (by omega) h2 (by decide)
      rw [h.1 (n + 2) (by omega)]
    · rw [h.1 (n + 1) (by omega)] at h2
      simp [h2]
  · have h1 := h0
    rw [h.1 n hn] at h1
    simp [h0, h1]
theorem alpha_ne {c : UInt8} (h : (alphaB c.toNat || digB c.toNat) = true) : c ≠ 10 := by
  rintro rfl; exact absurd h (by decide)
theorem wordR_line (h : LEq X Y m) : ∀ f g n, n ≤ m → X.length ≤ n + f → Y.length ≤ n + g → wordR X f n = wordR Y g n ∧ wordR X f n ≤ m := by
  intro f
  induction f using Nat.strongRecOn with
  | ind f ih =>
    intro g n hn hf hg
    by_cases hx : n < X.length
    · have hxe := List.getElem?_eq_getElem hx
      have hye : Y[n]? = some X[n] := by rw [← h.1 n hn]; exact hxe
      have hy : n < Y.length := (List.getElem?_eq_some_iff.1 hye).1
      have hxy : Y[n] = X[n] := (List.getElem?_eq_some_iff.1 hye).2
      by_cases ha : (alphaB X[n].toNat || digB X[n].toNat) = true
      · have h1 := h.lt hn hxe (alpha_ne ha)
        cases f with
        | zero => omega
        | succ f =>
          cases g with
          | zero => omega
          | succ g =>
            rw [wordR, wordR, hxe, hye]
            simp only [ha, if_true]
            exact ih f (by omega) g (n + 1) (by omega) (by omega) (by omega)
      · by_cases hs : sepAt X n = true
        · have hs2 : sepAt Y n = true := by rw [← sep_line h hn]; exact hs
          obtain ⟨e0, e1, e, e2, e3⟩ := (sep_as X n).1 hs
          have h1 := h.lt hn e0 (by decide)
          have h2 := h.lt (n := n + 1) (by omega) e1 (by decide)
          have h3 := h.lt (n := n + 2) (by omega) e2 (alpha_ne (by rw [e3]; rfl))
          cases f with
          | zero => omega
          | succ f =>
            cases g with
            | zero => omega
            | succ g =>
              rw [wordR, wordR, hxe, hye]
              simp only [ha, hs, hs2, if_true]
              exact ih f (by omega) g (n + 3) (by omega) (by omega) (by omega)
        · have hs' : sepAt X n = false := by simpa using hs
          have ha' : (alphaB X[n].toNat || digB X[n].toNat) = false := by simpa using ha
          rw [wordR_stop hx ha' hs', wordR_stop hy (by rw [hxy]; exact ha') (by rw [← sep_line h hn]; exact hs')]
          exact ⟨rfl, hn⟩
    · have hy : Y[n]? = none := by rw [← h.1 n hn]; exact List.getElem?_eq_none (by omega)
      rw [wordR_end (by omega), wordR_end (List.getElem?_eq_none_iff.1 hy)]
      exact ⟨rfl, hn⟩
theorem word_line (h : LEq X Y m) : wordN X = wordN Y ∧ wordN X ≤ m := by
  unfold wordN
  rw [← h.1 0 (Nat.zero_le _)]
  by_cases hx : 0 < X.length
  · rw [List.getElem?_eq_getElem hx]
    simp only
    by_cases ha : alphaB X[0].toNat = true
    · have h1 := h.lt (Nat.zero_le _) (List.getElem?_eq_getElem hx) (alpha_ne (by rw [ha]; rfl))
      rw [if_pos ha, if_pos ha]
      exact wordR_line h _ _ 1 h1 (by omega) (by omega)
    · rw [if_neg ha, if_neg ha]; exact ⟨rfl, Nat.zero_le _⟩
  · rw [List.getElem?_eq_none (by omega)]; exact ⟨rfl, Nat.zero_le _⟩
theorem dig_ne {c : UInt8} (h : digB c.toNat = true) : c ≠ 10 := by rintro rfl; exact absurd h (by decide)
theorem digR_line (h : LEq X Y m) : ∀ f g n, n ≤ m → X.length ≤ n + f → Y.length ≤ n + g → digR X f n = digR Y g n ∧ digR X f n ≤ m := by
  intro f
  induction f with
  | zero =>
    intro g n hn hf hg
    have hy : Y[n]? = none := by rw [← h.1 n hn]; exact List.getElem?_eq_none (by omega)
    rw [digR_end (by omega), digR_end (List.getElem?_eq_none_iff.1 hy)]
    exact ⟨rfl, hn⟩
  | succ f ih =>
    intro g n hn hf hg
    by_cases hx : n < X.length
    · have hxe := List.getElem?_eq_getElem hx
      have hye : Y[n]? = some X[n] := by rw [← h.1 n hn]; exact hxe
      have hy : n < Y.length := (List.getElem?_eq_some_iff.1 hye).1
      have hxy : Y[n] = X[n] := (List.getElem?_eq_some_iff.1 hye).2
      by_cases ha : digB X[n].toNat = true
      · have h1 := h.lt hn hxe (dig_ne ha)
        cases g with
        | zero => omega
        | succ g =>
          rw [digR, digR, hxe, hye]
          simp only [ha, if_true]
          exact ih g (n + 1) (by omega) (by omega) (by omega)
      · have ha' : digB X[n].toNat = false := by simpa using ha
        rw [digR_stop hx ha', digR_stop hy (by rw [hxy]; exact ha')]
        exact ⟨rfl, hn⟩
    · have hy : Y[n]? = none := by rw [← h.1 n hn]; exact List.getElem?_eq_none (by omega)
      rw [digR_end (by omega), digR_end (List.getElem?_eq_none_iff.1 hy)]
      exact ⟨rfl, hn⟩
/-- digits at the beginning -/
theorem dig_line (h : LEq X Y m) {c : UInt8} (h0 : X[0]? = some c) (hc : digB c.toNat = true) : digN X = digN Y ∧ digN X ≤ m := by
  have h1 := h.lt (Nat.zero_le _) h0 (dig_ne hc)
  unfold digN
  exact digR_line h _ _ 1 h1 (by omega) (by omega)
theorem sign_nl : ∀ g ∈ signsL, (10 : UInt8) ∉ g := by decide
theorem sign_no10 {k : List UInt8} (h : (10 : UInt8) ∈ k) : isSignB k = false := by
  unfold isSignB
  cases hc : signsL.contains k with
  | false => rfl
  | true => exact absurd h (sign_nl k (by simpa using hc))
theorem take_line (h : LEq X Y m) {k : Nat} (hk : k ≤ m) : X.take k = Y.take k := by
  refine List.ext_getElem? fun i => ?_
  by_cases hi : i < k
  · rw [List.getElem?_take_of_lt hi, List.getElem?_take_of_lt hi, h.1 i (by omega)]
  · rw [List.getElem?_take, List.getElem?_take, if_neg hi, if_neg hi]
theorem signGo_cut {Z : List UInt8} (hz : Z[m]? = some 10) : ∀ k, m ≤ k → signGo Z k = signGo Z m
  | 0, hk => by
    have : m = 0 := by omega
    rw [this]
  | k + 1, hk => by
    rcases Nat.lt_or_eq_of_le hk with h1 | rfl
    · rw [signGo, if_neg, signGo_cut hz k (by omega)]
      rw [sign_no10]; · decide
      exact List.mem_of_getElem? (i := m) (by rw [List.getElem?_take_of_lt h1]; exact hz)
    · rfl
theorem signGo_line (h : LEq X Y m) : ∀ k, k ≤ m → signGo X k = signGo Y k
  | 0, _ => rfl
  | k + 1, hk => by rw [signGo, signGo, take_line h hk, signGo_line h k (by omega)]
theorem sign_line (h : LEq X Y m) : signN X = signN Y ∧ signN X ≤ m := by
  unfold signN
  rcases h.2 with h2 | h2
  · have := h.eq_of_none h2
    subst this
    refine ⟨rfl, ?_⟩
    have := signGo_le X (min 3 X.length)
    have := List.getElem?_eq_none_iff.1 h2
    omega
  · have h3 : Y[m]? = some 10 := by rw [← h.1 m (Nat.le_refl _)]; exact h2
    have hx := (List.getElem?_eq_some_iff.1 h2).1
    have hy := (List.getElem?_eq_some_iff.1 h3).1
    by_cases hm : m ≤ 3
    · rw [signGo_cut h2 _ (by omega), signGo_cut h3 _ (by omega), signGo_line h m (Nat.le_refl _)]
      exact ⟨rfl, signGo_le _ _⟩
    · rw [show min 3 X.length = 3 by omega, show min 3 Y.length = 3 by omega, signGo_line h 3 (by omega)]
      exact ⟨rfl, by have := signGo_le Y 3; omega⟩
theorem signS_line (h : LEq X Y m) (tm : Bool) : signS X tm = signS Y tm ∧ signS X tm ≤ m := by
  obtain ⟨h1, h2⟩ := sign_line h
  unfold signS
  rw [← h1]
  by_cases h0 : 0 < signN X
  · rw [if_pos h0, if_pos h0]; exact ⟨rfl, h2⟩
  · rw [if_neg h0, if_neg h0, ← h.1 0 (Nat.zero_le _)]
    by_cases hx : X[0]? = some 36 ∨ X[0]? = some 64
    · have hm : 0 < m := by
        rcases hx with hx | hx
        · exact h.lt (Nat.zero_le _) hx (by decide)
        · exact h.lt (Nat.zero_le _) hx (by decide)
      rw [← h.1 1 (by omega)]
      refine ⟨rfl, ?_⟩
      split <;> omega
    · rw [if_neg (by simp [hx]), if_neg (by simp [hx])]; exact ⟨rfl, Nat.zero_le _⟩
theorem flagN_off (l all : List UInt8) (a : Nat) : ∀ n, flagN l a all n = flagN (l.drop a) 0 all n := by
  induction all with
  | nil => intro n; rfl
  | cons c t ih => intro n; rw [flagN, flagN, ih, List.getElem?_drop, Nat.zero_add]
theorem flagN_line (h : LEq X Y m) (all : List UInt8) (ha : (10 : UInt8) ∉ all) : ∀ n, n ≤ m → flagN X 0 all n = flagN Y 0 all n ∧ flagN X 0 all n ≤ m := by
  induction all with
  | nil => intro n hn; exact ⟨rfl, hn⟩
  | cons c t ih =>
    intro n hn
    rw [flagN, flagN, Nat.zero_add, ← h.1 n hn]
    have ha2 : (10 : UInt8) ∉ t := fun e => ha (List.mem_cons_of_mem _ e)
    by_cases hc : X[n]? = some c
    · rw [if_pos hc]
      have h1 := h.lt hn hc (fun e => ha (by rw [e]; exact List.mem_cons_self))
      exact ih ha2 (n + 1) h1
    · rw [if_neg hc]; exact ih ha2 n hn
theorem drop_line (h : LEq X Y m) {n : Nat} (hn : n ≤ m) : LEq (X.drop n) (Y.drop n) (m - n) := by
  refine ⟨fun i hi => ?_, ?_⟩
  · rw [List.getElem?_drop, List.getElem?_drop, h.1 (n + i) (by omega)]
  · rw [List.getElem?_drop, show n + (m - n) = m by omega]; exact h.2
theorem quote_line (h : LEq X Y m) : quoteL X = quoteL Y ∧ ∀ k n, quoteL X = some (k, n) → n < m := by
  obtain ⟨h1, h2⟩ := word_line h
  unfold quoteL
  rw [← h1, ← h.1 (wordN X) h2]
  cases e : X[wordN X]? with
  | none => exact ⟨rfl, fun _ _ e => by cases e⟩
  | some c =>
    simp only
    by_cases hd : delimB c.toNat = true
    · have h10 : c ≠ 10 := by rintro rfl; exact absurd hd (by decide)
      have h3 := h.lt h2 e h10
      have hw : wordOr X = wordOr Y := by
        unfold wordOr
        rw [← h1]
        split
        · exact take_line h (by omega)
        · exact take_line h (by omega)
      rw [if_pos hd, if_pos hd, hw]
      refine ⟨rfl, fun k n e2 => ?_⟩
      cases hk : kindL (wordOr Y) with
      | none => rw [hk] at e2; cases e2
      | some kk => rw [hk] at e2; simp at e2; omega
    · rw [if_neg hd, if_neg hd]; exact ⟨rfl, fun _ _ e => by cases e⟩
theorem varS_line (h : LEq X Y m) (ref : Bool) : varS ref X = varS ref Y ∧ ∀ n, varS ref X = some n → n ≤ m := by
  have hz : ∀ n : Nat, some 0 = some n → n ≤ m := fun n e => by cases e; exact Nat.zero_le _
  match X, Y, h with
  | [], [], _ => exact ⟨rfl, hz⟩
  | [], d :: t, h => have := h.1 0 (Nat.zero_le _); simp at this
  | d :: t, [], h => have := h.1 0 (Nat.zero_le _); simp at this
  | [c], [c2], h => exact ⟨rfl, hz⟩
  | [c], c2 :: d :: t, h =>
    have h0 := h.1 0 (Nat.zero_le _)
    simp at h0
    subst h0
    have hs : sigilB c.toNat = false := by
      cases hs : sigilB c.toNat with
      | false => rfl
      | true =>
        have h10 : c ≠ 10 := by rintro rfl; exact absurd hs (by decide)
        have := h.1 1 (h.lt (Nat.zero_le _) (c := c) rfl h10)
        simp at this
    unfold varS
    simp only [hs]
    exact ⟨rfl, hz⟩
  | c :: d :: t, [c2], h =>
    have h0 := h.1 0 (Nat.zero_le _)
    simp at h0
    subst h0
    have hs : sigilB c.toNat = false := by
      cases hs : sigilB c.toNat with
      | false => rfl
      | true =>
        have h10 : c ≠ 10 := by rintro rfl; exact absurd hs (by decide)
        have := h.1 1 (h.lt (Nat.zero_le _) (c := c) rfl h10)
        simp at this
    unfold varS
    simp only [hs]
    exact ⟨rfl, hz⟩
  | c :: d :: t, c2 :: d2 :: t2, h =>
    have h0 := h.1 0 (Nat.zero_le _)
    simp at h0
    subst h0
    by_cases hs : sigilB c.toNat = true
    · have h10 : c ≠ 10 := by rintro rfl; exact absurd hs (by decide)
      have hm := h.lt (Nat.zero_le _) (c := c) rfl h10
      have hd := h.1 1 hm
      simp at hd
      subst hd
      have hl := word_line (drop_line h hm)
      simp only [List.drop_succ_cons, List.drop_zero] at hl
      obtain ⟨w1, w2⟩ := hl
      unfold varS
      simp only [hs, if_true]
      rw [← w1]
      refine ⟨rfl, fun n e => ?_⟩
      split at e
      · split at e
        · cases e
        · exact hz n e
      · split at e
        · cases e; omega
        · split at e
          · rename_i h3
            have hd10 : d ≠ 10 := by rintro rfl; exact absurd h3.2 (by decide)
            have := h.lt (n := 1) hm (c := d) rfl hd10
            cases e; omega
          · exact hz n e
    · have hs : sigilB c.toNat = false := by simpa using hs
      unfold varS
      simp only [hs]
      exact ⟨rfl, hz⟩
theorem hereL_line (h : LEq X Y m) : hereL X = hereL Y ∧ ∀ r, hereL X = some r → r.1 ≤ m := by
  obtain ⟨h1, h2⟩ := word_line h
  unfold hereL
  rw [← h1]
  by_cases h0 : 0 < wordN X
  · rw [if_pos h0, if_pos h0, take_line h h2]
    refine ⟨rfl, fun r e => ?_⟩
    split at e
    · cases e; exact h2
    · cases e
  · rw [if_neg h0, if_neg h0, ← h.1 0 (Nat.zero_le _)]
    cases e : X[0]? with
    | none => exact ⟨rfl, fun _ e => by cases e⟩
    | some q =>
      simp only
      by_cases hq : q = 39 ∨ q = 34
      · have h10 : q ≠ 10 := by rintro rfl; exact absurd hq (by decide)
        have hm := h.lt (Nat.zero_le _) e h10
        have hd : LEq (X.drop 1) (Y.drop 1) (m - 1) := drop_line h hm
        obtain ⟨w1, w2⟩ := word_line hd
        rw [← w1, ← hd.1 _ w2, take_line hd w2]
        refine ⟨rfl, fun r e2 => ?_⟩
        split at e2
        · rename_i h5
          have := hd.lt w2 h5.2.2.2 h10
          cases e2
          show 2 + wordN (X.drop 1) ≤ m
          omega
        · cases e2
      · rw [if_neg (fun h => hq h.1), if_neg (fun h => hq h.1)]
        exact ⟨rfl, fun _ e => by cases e⟩
theorem here_line (h : LEq X Y m) : hereS X = hereS Y ∧ ∀ r, hereS X = some r → r.1 ≤ m := by
  unfold hereS
  rw [← h.1 0 (Nat.zero_le _)]
  by_cases h0 : X[0]? = some 60
  · have hm := h.lt (Nat.zero_le _) h0 (by decide)
    rw [← h.1 1 hm]
    by_cases h1 : X[1]? = some 60
    · have hm2 := h.lt hm h1 (by decide)
      have hd := drop_line h hm2
      obtain ⟨w1, w2⟩ := hereL_line hd
      rw [if_pos ⟨h0, h1⟩, if_pos ⟨h0, h1⟩, w1]
      refine ⟨rfl, fun r e => ?_⟩
      cases e2 : hereL (Y.drop 2) with
      | none => rw [e2] at e; cases e
      | some q =>
        rw [e2] at e
        have := w2 q (by rw [w1]; exact e2)
        cases e
        show 2 + q.1 ≤ m
        omega
    · rw [if_neg (by simp [h1]), if_neg (by simp [h1])]; exact ⟨rfl, fun _ e => by cases e⟩
  · rw [if_neg (by simp [h0]), if_neg (by simp [h0])]; exact ⟨rfl, fun _ e => by cases e⟩
end Go.Proofs.YthmopindibdhnaaDoor.G
namespace Go.Proofs.YthmopindibdhnaaDoor.G
open Go.RowKit Go.Shelf
def lineOf (l : List UInt8) (a : Nat) : List UInt8 := (l.drop a).takeWhile (fun c => c != 10)
/-- what stands behind a line that begins at place a -/
def behindL (l : List UInt8) (a : Nat) : Nat := if a + (lineOf l a).length < l.length then a + (lineOf l a).length + 1 else a + (lineOf l a).length
/-- the lines from place a on up to the one that is a name: where they end, and what is behind that one -/
def linesA (l name : List UInt8) : Nat → Nat → Option (Nat × Nat)
  | 0, _ => none
  | f + 1, a => if a < l.length then (if lineOf l a = name then some (a, behindL l a) else linesA l name f (behindL l a)) else none
theorem takeW_all {p : UInt8 → Bool} : ∀ {l : List UInt8} {x : UInt8}, x ∈ l.takeWhile p → p x = true
  | [], _, h => by cases h
  | y :: t, x, h => by
    rw [List.takeWhile_cons] at h
    split at h
    · rcases List.mem_cons.1 h with rfl | h
      · assumption
      · exact takeW_all h
    · cases h
theorem dropW_head {p : UInt8 → Bool} : ∀ {l : List UInt8} {x : UInt8} {t : List UInt8}, l.dropWhile p = x :: t → p x = false
  | [], _, _, h => by cases h
  | y :: l, x, t, h => by
    rw [List.dropWhile_cons] at h
    split at h
    · exact dropW_head h
    · cases h; simp_all
def JNo (J : Nat → Option Nat) (a : Nat) : Prop := ∀ k, a ≤ k → J k = none
/-- no line that is behind this one goes on elsewhere -/
def JPast (l : List UInt8) (J : Nat → Option Nat) (a : Nat) : Prop := ∀ k b, J k = some b → k < a ∨ ∀ i, a ≤ i → i < k → l[i]? ≠ some 10
variable {l : List UInt8} {J : Nat → Option Nat} {a b : Nat} {name : List UInt8}
theorem JNo.nx (h : JNo J a) : nx J a = a + 1 := by unfold G.nx; rw [h a (Nat.le_refl _)]; rfl
theorem JNo.mono (h : JNo J a) (hab : a ≤ b) : JNo J b := fun k hk => h k (by omega)
theorem JPast.mono (h : JPast l J a) (hab : a ≤ b) : JPast l J b := fun k c e => by
  rcases h k c e with h1 | h1
  · left; omega
  · right; intro i h2 h3; exact h1 i (by omega) h3
theorem line_le (l : List UInt8) (a : Nat) : a ≤ l.length → a + (lineOf l a).length ≤ l.length := fun h => by
  have := (List.takeWhile_prefix (l := l.drop a) (fun c : UInt8 => c != 10)).length_le
  rw [List.length_drop] at this
  unfold lineOf; omega
theorem behind_gt (ha : a < l.length) : a < behindL l a ∧ behindL l a ≤ l.length := by
  have h1 := line_le l a (by omega)
  unfold behindL
  split
  · omega
  · omega
theorem linesA_fuel : ∀ f g a, l.length < a + f → l.length < a + g → linesA l name f a = linesA l name g a
  | 0, 0, _, _, _ => rfl
  | 0, g + 1, a, hf, _ => by rw [linesA, linesA, if_neg (by omega)]
  | f + 1, 0, a, _, hg => by rw [linesA, linesA, if_neg (by omega)]
  | f + 1, g + 1, a, hf, hg => by
    rw [linesA, linesA]
    by_cases ha : a < l.length
    · have := behind_gt ha
      rw [if_pos ha, if_pos ha, linesA_fuel f g (behindL l a) (by omega) (by omega)]
    · rw [if_neg ha, if_neg ha]
theorem linesA_le {f : Nat} {r : Nat × Nat} : ∀ {a}, linesA l name f a = some r → a ≤ r.1 ∧ r.1 < r.2 ∧ r.2 ≤ l.length := by
  induction f with
  | zero => intro a h; cases h
  | succ f ih =>
    intro a h
    rw [linesA] at h
    split at h
    · rename_i ha
      have := behind_gt ha
      split at h
      · cases h; exact ⟨Nat.le_refl _, this⟩
      · have := ih h; omega
    · cases h
theorem raw_drop (hJ : JOk l J) (h : JNo J a) : ∀ i, a + i ≤ l.length → (rest l J a).drop i = rest l J (a + i)
  | 0, _ => rfl
  | i + 1, hi => by
    have := raw_drop hJ h i (by omega)
    rw [show (rest l J a).drop (i + 1) = ((rest l J a).drop i).drop 1 by rw [List.drop_drop], this, rest_cons hJ (by omega), (h.mono (b := a + i) (by omega)).nx]
    rfl
theorem raw_byt (hJ : JOk l J) : ∀ n a, JNo J a → l.length - a ≤ n → byt (rest l J a) = l.drop a
  | n, a, h, hn => by
    by_cases ha : a < l.length
    · obtain ⟨n, rfl⟩ : ∃ k, n = k + 1 := ⟨n - 1, by omega⟩
      rw [rest_cons hJ ha, h.nx, byt_cons, raw_byt hJ n (a + 1) (h.mono (by omega)) (by omega), List.drop_eq_getElem_cons ha]
    · rw [rest_nil (by omega), List.drop_eq_nil_of_le (by omega)]; rfl
theorem takeW_byt : ∀ R : Src, byt (R.takeWhile notNl) = (byt R).takeWhile (fun c => c != 10)
  | [] => rfl
  | x :: t => by
    rw [List.takeWhile_cons, byt_cons, List.takeWhile_cons]
    show byt (if (x.2 != 10) = true then _ else _) = _
    split
    · rw [byt_cons, takeW_byt t]
    · rfl
theorem dropW_drop : ∀ R : Src, R.dropWhile notNl = R.drop (R.takeWhile notNl).length
  | [] => rfl
  | x :: t => by
    rw [List.dropWhile_cons, List.takeWhile_cons]
    cases notNl x with
    | true => simp [dropW_drop t]
    | false => simp
theorem lines_eq (hJ : JOk l J) : ∀ f a, JNo J a → a ≤ l.length → linesS name f (rest l J a) = (linesA l name f a).map fun r => ((l.drop a).take (r.1 - a), rest l J r.2)
  | 0, _, _, _ => rfl
  | f + 1, a, h, hal => by
    rw [linesS, linesA]
    by_cases ha : a < l.length
    · have hb := raw_byt hJ _ a h (Nat.le_refl _)
      have hT : byt ((rest l J a).takeWhile notNl) = lineOf l a := by rw [takeW_byt, hb]; rfl
      have hTl : ((rest l J a).takeWhile notNl).length = (lineOf l a).length := by rw [← hT, byt_len]
      have hll := line_le l a hal
      have hD : (rest l J a).dropWhile notNl = rest l J (a + (lineOf l a).length) := by rw [dropW_drop, hTl, raw_drop hJ h _ hll]
      have hbh := behind_gt ha
      have hD1 : ((rest l J a).dropWhile notNl).drop 1 = rest l J (behindL l a) := by
        rw [hD]
        unfold behindL
        split
        · rename_i h1
          rw [raw_drop hJ (h.mono (by omega)) 1 (by omega)]
        · rw [rest_nil (a := a + (lineOf l a).length) (by omega)]; rfl
      rw [if_neg (rest_ne hJ ha), if_pos ha, hD1, hT]
      by_cases hn : lineOf l a = name
      · rw [if_pos hn, if_pos hn]; simp
      · rw [if_neg hn, if_neg hn, lines_eq hJ f _ (h.mono (by omega)) hbh.2]
        cases e : linesA l name f (behindL l a) with
        | none => rfl
        | some r =>
          have hr := linesA_le e
          simp only [Option.map_some, Option.some.injEq, Prod.mk.injEq, and_true]
          have hX : lineOf l a ++ byt (((rest l J a).dropWhile notNl).take 1) = (l.drop a).take (behindL l a - a) := by
            have hA : (l.drop a).take (lineOf l a).length = lineOf l a := by
              have := List.takeWhile_prefix (l := l.drop a) (fun c : UInt8 => c != 10)
              exact (List.prefix_iff_eq_take.1 this).symm
            rw [hD]
            unfold behindL
            split
            · rename_i h1
              rw [rest_cons hJ h1, show a + (lineOf l a).length + 1 - a = (lineOf l a).length + 1 by omega, List.take_add_one (l := l.drop a), hA, List.getElem?_drop, List.getElem?_eq_getElem h1]
              rfl
            · rw [rest_nil (by omega), show a + (lineOf l a).length - a = (lineOf l a).length by omega, hA]; simp
          rw [hX, show r.1 - a = (behindL l a - a) + (r.1 - behindL l a) by omega, List.take_add, List.drop_drop, show a + (behindL l a - a) = behindL l a by omega]
    · rw [if_neg ha, rest_nil (by omega)]; rfl
/-- a line goes on elsewhere -/
def jput (J : Nat → Option Nat) (e b : Nat) : Nat → Option Nat := fun k => if k = e then some b else J k
theorem jput_ok (h : JOk l J) {e : Nat} (he : l[e]? = some 10) (h1 : e < b) (h2 : b ≤ l.length) : JOk l (jput J e b) := by
  refine ⟨fun k c hk => ?_, fun k c hk => ?_, fun k c hk => ?_⟩
  all_goals
    unfold jput at hk
    split at hk
    · cases hk; subst_vars; first | exact he | exact h1 | exact h2
    · first | exact h.nl k c hk | exact h.lt k c hk | exact h.le k c hk
theorem jput_past (h : JPast l J a) {e : Nat} (hno : ∀ i, a ≤ i → i < e → l[i]? ≠ some 10) : JPast l (jput J e b) a := fun k c hk => by
  unfold jput at hk
  split at hk
  · subst_vars; exact .inr hno
  · exact h k c hk
theorem rest_far {J2 : Nat → Option Nat} (h : JOk l J) (h2 : JOk l J2) : ∀ n a, l.length - a ≤ n → (∀ k, a ≤ k → J k = J2 k) → rest l J a = rest l J2 a
  | n, a, hn, hk => by
    by_cases ha : a < l.length
    · obtain ⟨n, rfl⟩ : ∃ k, n = k + 1 := ⟨n - 1, by omega⟩
      have e : nx J a = nx J2 a := by unfold nx; rw [hk a (Nat.le_refl _)]
      have := nx_gt h2 a
      rw [rest_cons h ha, rest_cons h2 ha, e, rest_far h h2 n _ (by omega) (fun k h1 => hk k (by omega))]
    · rw [rest_nil (by omega), rest_nil (by omega)]
/-- what is left up to the end of the line, and that -/
theorem rest_line (h : JOk l J) {e : Nat} (he : l[e]? = some 10) : ∀ n a, e - a ≤ n → a ≤ e → (∀ i, a ≤ i → i < e → l[i]? ≠ some 10) →
    (rest l J a).dropWhile notNl = (e, 10) :: rest l J (nx J e) ∧ ∀ J2, JOk l J2 → rest l J2 a = (rest l J a).takeWhile notNl ++ (e, 10) :: rest l J2 (nx J2 e)
  | n, a, hn, hae, hno => by
    have hel := (List.getElem?_eq_some_iff.1 he)
    rcases Nat.lt_or_eq_of_le hae with hlt | rfl
    · obtain ⟨n, rfl⟩ : ∃ k, n = k + 1 := ⟨n - 1, by omega⟩
      have ha : a < l.length := by have := hel.1; omega
      have h10 : l[a] ≠ 10 := fun e2 => hno a (Nat.le_refl _) hlt (by rw [List.getElem?_eq_getElem ha, e2])
      have hnx : ∀ J3, JOk l J3 → nx J3 a = a + 1 := fun J3 h3 => by
        unfold nx
        cases e2 : J3 a with
        | none => rfl
        | some c => exact absurd (h3.nl a c e2) (hno a (Nat.le_refl _) hlt)
      have hp : notNl (a, l[a]) = true := by simp [notNl, h10]
      obtain ⟨i1, i2⟩ := rest_line h he n (a + 1) (by omega) hlt (fun i h1 h2 => hno i (by omega) h2)
      rw [rest_cons h ha, hnx J h]
      refine ⟨by rw [List.dropWhile_cons, if_pos hp, i1], fun J2 h2 => ?_⟩
      rw [rest_cons h2 ha, hnx J2 h2, i2 J2 h2, List.takeWhile_cons, if_pos hp]
      rfl
    · have ha := hel.1
      have h10 : l[a] = 10 := hel.2
      rw [rest_cons h ha, h10]
      refine ⟨rfl, fun J2 h2 => ?_⟩
      rw [rest_cons h2 ha, h10]
      rfl
/-- where the line ends in which place a is -/
theorem eol_some (ha : a + (lineOf l a).length < l.length) : l[a + (lineOf l a).length]? = some 10 ∧ ∀ i, a ≤ i → i < a + (lineOf l a).length → l[i]? ≠ some 10 := by
  have hpre := List.takeWhile_prefix (l := l.drop a) (fun c : UInt8 => c != 10)
  have hsp := List.takeWhile_append_dropWhile (p := fun c : UInt8 => c != 10) (l := l.drop a)
  refine ⟨?_, fun i h1 h2 e => ?_⟩
  · cases hd : (l.drop a).dropWhile (fun c => c != 10) with
    | nil =>
      rw [hd, List.append_nil] at hsp
      have := congrArg List.length hsp
      rw [List.length_drop] at this
      unfold lineOf at ha; omega
    | cons x t =>
      have hx : (x != 10) = false := dropW_head (p := fun c => c != 10) hd
      have hx2 : x = 10 := by simpa using hx
      have : (l.drop a)[(lineOf l a).length]? = some x := by
        rw [← hsp, hd]
        unfold lineOf
        rw [List.getElem?_append_right (Nat.le_refl _)]; simp
      rw [List.getElem?_drop] at this
      rw [this, hx2]
  · have hm : i - a < (lineOf l a).length := by omega
    have h3 : (lineOf l a)[i - a]? = some 10 := by
      have h4 : lineOf l a = (l.drop a).take (lineOf l a).length := List.prefix_iff_eq_take.1 hpre
      rw [h4, List.getElem?_take_of_lt (by exact hm), List.getElem?_drop, show a + (i - a) = i by omega]; exact e
    have h5 := List.mem_of_getElem? h3
    exact absurd (takeW_all h5) (by decide)
theorem eol_none (ha : ¬ a + (lineOf l a).length < l.length) {i : Nat} (h1 : a ≤ i) : l[i]? ≠ some 10 := fun e => by
  have hil := (List.getElem?_eq_some_iff.1 e).1
  have hpre := List.takeWhile_prefix (l := l.drop a) (fun c : UInt8 => c != 10)
  have h4 : lineOf l a = (l.drop a).take (lineOf l a).length := List.prefix_iff_eq_take.1 hpre
  have h3 : (lineOf l a)[i - a]? = some 10 := by
    rw [h4, List.getElem?_take_of_lt (by omega), List.getElem?_drop, show a + (i - a) = i by omega]; exact e
  exact absurd (takeW_all (List.mem_of_getElem? h3)) (by decide)
theorem dropW_rest (hJ : JOk l J) (hal : a ≤ l.length) : (rest l J a).dropWhile notNl = rest l J (a + (lineOf l a).length) := by
  by_cases h : a + (lineOf l a).length < l.length
  · obtain ⟨he, hno⟩ := eol_some h
    rw [(rest_line hJ he _ a (Nat.le_refl _) (by omega) hno).1, rest_cons hJ h, (List.getElem?_eq_some_iff.1 he).2]
  · rw [rest_nil (a := a + (lineOf l a).length) (by omega)]
    have : ∀ n b, l.length - b ≤ n → a ≤ b → b ≤ l.length → (rest l J b).dropWhile notNl = [] := by
      intro n
      induction n with
      | zero => intro b hn h1 h2; rw [rest_nil (by omega)]; rfl
      | succ n ih =>
        intro b hn h1 h2
        by_cases hb : b < l.length
        · have hg := nx_gt hJ b
          have h10 : l[b] ≠ 10 := fun e => eol_none h h1 (by rw [List.getElem?_eq_getElem hb, e])
          rw [rest_cons hJ hb, List.dropWhile_cons, if_pos (by simp [notNl, h10])]
          exact ih _ (by omega) (by omega) (nx_le hJ hb)
        · rw [rest_nil (by omega)]; rfl
    exact this _ a (Nat.le_refl _) (Nat.le_refl _) hal
theorem skip_true : ∀ R : Src, skipS true R = skipS false (R.dropWhile notNl)
  | [] => rfl
  | x :: t => by
    by_cases h : x.2 = 10
    · have hp : notNl x = false := by simp [notNl, h]
      rw [List.dropWhile_cons, hp]
      simp only [Bool.false_eq_true, if_false]
      rw [skipS, if_pos h, skipS, if_pos (by rw [h]; decide)]
    · have hp : notNl x = true := by simp [notNl, h]
      rw [List.dropWhile_cons, if_pos hp, skipS, if_neg h, skip_true t]
/-- a comment is passed up to the end of its line -/
theorem skip_com (hJ : JOk l J) (ha : a < l.length) (h : l[a] = 35) : skipS false (rest l J a) = skipS false (rest l J (a + (lineOf l a).length)) := by
  rw [← dropW_rest hJ (by omega), ← skip_true, rest_cons hJ ha, skipS, skipS, h]
  rfl
theorem skip_blk (hJ : JOk l J) (ha : a < l.length) (h : blkB l[a].toNat = true) : skipS false (rest l J a) = skipS false (rest l J (nx J a)) := by
  rw [rest_cons hJ ha, skipS, if_pos h]
theorem skip_stop (hJ : JOk l J) (h : ∀ ha : a < l.length, blkB l[a].toNat = false ∧ l[a] ≠ 35) : skipS false (rest l J a) = rest l J a := by
  by_cases ha : a < l.length
  · obtain ⟨h1, h2⟩ := h ha
    rw [rest_cons hJ ha, skipS, if_neg (by rw [h1]; decide), if_neg h2]
  · rw [rest_nil (by omega)]; rfl
theorem skip_suf : ∀ (c : Bool) (R : Src), skipS c R <:+ R
  | true, [] => List.suffix_refl _
  | false, [] => List.suffix_refl _
  | true, x :: t => by
    rw [skipS]
    split
    · exact (skip_suf false t).trans (List.suffix_cons _ _)
    · exact (skip_suf true t).trans (List.suffix_cons _ _)
  | false, x :: t => by
    rw [skipS]
    split
    · exact (skip_suf false t).trans (List.suffix_cons _ _)
    · split
      · exact (skip_suf true t).trans (List.suffix_cons _ _)
      · exact List.suffix_refl _
/-- whether a token stands directly behind the last one -/
theorem near_eq (hJ : JOk l J) {b : Nat} (h : rest l J b = skipS false (rest l J a)) (hb : b < l.length) (hab : a ≤ b) : decide ((skipS false (rest l J a)).length = (rest l J a).length) = decide (b = a) := by
  by_cases e : b = a
  · subst e; rw [← h]; simp
  · have : (skipS false (rest l J a)).length ≠ (rest l J a).length := fun e2 => by
      have h2 := (skip_suf false (rest l J a)).eq_of_length e2
      have h3 := congrArg place (h.trans h2)
      rw [rest_place hJ hb, rest_place hJ (by omega)] at h3
      exact e h3
    simp [this, e]
/-- a heredoc's lines cut out of what is left, in the source's own places -/
theorem cut_eq (hJ : JOk l J) (hp : JPast l J a) (hal : a ≤ l.length) :
    (a + (lineOf l a).length < l.length → ∀ f, l.length < nx J (a + (lineOf l a).length) + f → cutS name (rest l J a) =
      (linesA l name f (nx J (a + (lineOf l a).length))).map fun r => ((l.drop (nx J (a + (lineOf l a).length))).take (r.1 - nx J (a + (lineOf l a).length)), rest l (jput J (a + (lineOf l a).length) r.2) a)) ∧
    (¬ a + (lineOf l a).length < l.length → cutS name (rest l J a) = none) := by
  refine ⟨fun h f hf => ?_, fun h => ?_⟩
  · obtain ⟨he, hno⟩ := eol_some h
    have hng := nx_gt hJ (a + (lineOf l a).length)
    have hnl := nx_le hJ h
    obtain ⟨h1, h2⟩ := rest_line hJ he _ a (Nat.le_refl _) (by omega) hno
    have hJn : JNo J (nx J (a + (lineOf l a).length)) := fun k hk => by
      cases e : J k with
      | none => rfl
      | some c =>
        rcases hp k c e with h3 | h3
        · omega
        · exact absurd he (h3 _ (by omega) (by omega))
    unfold cutS
    rw [h1]
    simp only
    rw [lines_eq hJ _ _ hJn hnl]
    have hlen : (rest l J (nx J (a + (lineOf l a).length))).length = l.length - nx J (a + (lineOf l a).length) := by
      rw [← byt_len, raw_byt hJ _ _ hJn (Nat.le_refl _), List.length_drop]
    rw [linesA_fuel _ f _ (by rw [hlen]; omega) hf]
    cases e : linesA l name f (nx J (a + (lineOf l a).length)) with
    | none => rfl
    | some r =>
      have hr := linesA_le e
      have hok : JOk l (jput J (a + (lineOf l a).length) r.2) := jput_ok hJ he (by omega) hr.2.2
      simp only [Option.map_some, Option.some.injEq, Prod.mk.injEq, true_and]
      rw [h2 _ hok]
      have hn2 : nx (jput J (a + (lineOf l a).length) r.2) (a + (lineOf l a).length) = r.2 := by simp [nx, jput]
      rw [hn2, rest_far hJ hok _ r.2 (Nat.le_refl _) (fun k hk => by unfold jput; rw [if_neg (by omega)])]
  · unfold cutS
    rw [dropW_rest hJ hal, rest_nil (a := a + (lineOf l a).length) (by omega)]
end Go.Proofs.YthmopindibdhnaaDoor.G
namespace Go.Proofs.YthmopindibdhnaaDoor.G
open Go.RowKit Go.Shelf Go.Maps
/-- the map of where lines go on: its block, how many entries it has at most, what it says -/
structure GoMap where
  blk : Nat
  n : Nat
  J : Nat → Option Nat
instance : CoeOut GoMap Nat := ⟨GoMap.blk⟩
theorem keyedI : Keyed Tryd.prog 3 := int_keyed Tryd.underlying3
theorem zeroI (w : World) : (zeroValue 3).run Tryd.prog w = .ok (.int .i64 0) w := by kernel_rfl
def litK (k : Nat) : Lit := .int .i64 (k : Int)
/-- what a map's datum says -/
structure Means (D : DataW Unit) (J : Nat → Option Nat) : Prop where
  no : ∀ k : Nat, k ≤ 140737488351232 → J k = none → Maps.has D (litK k) = false
  yes : ∀ k v : Nat, k ≤ 140737488351232 → J k = some v → Maps.has D (litK k) = true ∧ D.atKey (litK k) (.lit (.int .i64 0)) = .lit (.int .i64 (v : Int))
def MapJ (w : World) (M : GoMap) : Prop := ∃ D : DataW Unit, w.ownsMap Tryd.prog 3 (plainElem Tryd.prog 3) M.blk M.n D ∧ Means D M.J
theorem keyN {k : Nat} (hk : k ≤ 140737488351232) : keyOf Tryd.prog 3 (.int .i64 (k : Int)) = some (litK k) :=
  keyOf_int_mk Tryd.underlying3 (WalkArith.wf_i64 (by omega))
variable {w w' : World} {M : GoMap}
theorem MapJ.lt (h : MapJ w M) : M.blk < w.heap.size := by obtain ⟨D, h1, _⟩ := h; exact h1.lt
theorem MapJ.at (h : MapJ w M) (e : w'.heap[M.blk]? = w.heap[M.blk]?) : MapJ w' M := by
  obtain ⟨D, ⟨es, clock, hb, F, hs, hD⟩, h2⟩ := h
  exact ⟨D, ⟨es, clock, e.trans hb, F, hs, hD⟩, h2⟩
theorem MapJ.new (w : World) : MapJ (w.alloc (.map #[] 0)) ⟨w.heap.size, 0, fun _ => none⟩ :=
  ⟨.map [], World.ownsMap_made w _ _ _, ⟨fun _ _ _ => rfl, fun _ _ _ h => by cases h⟩⟩
theorem MapJ.look_no (h : MapJ w M) {k : Nat} (hk : k ≤ 140737488351232) (e : M.J k = none) : (Instr.lookup 38 (.map (some M.blk)) (.int .i64 (k : Int)) true).run Tryd.prog w = .ok (.tuple #[.int .i64 0, .bool false]) w := by
  obtain ⟨D, h1, h2⟩ := h
  have h3 := h2.no k hk e
  obtain ⟨v, ps, hr, hv⟩ := h1.look_ok keyedI Tryd.underlying38 (zeroI w) (plainElem_int Tryd.underlying3 (by decide)) (keyN hk)
  rw [atKey_of_not_has h3] at hv
  obtain ⟨c, rfl, hc, _⟩ := plainElem_int_inv Tryd.underlying3 hv
  have hc1 := congrArg Prod.fst hc
  simp at hc1
  rw [hr, h3, ← hc1]
theorem MapJ.look_yes (h : MapJ w M) {k v : Nat} (hk : k ≤ 140737488351232) (e : M.J k = some v) : (Instr.lookup 38 (.map (some M.blk)) (.int .i64 (k : Int)) true).run Tryd.prog w = .ok (.tuple #[.int .i64 (v : Int), .bool true]) w := by
  obtain ⟨D, h1, h2⟩ := h
  obtain ⟨h3, h4⟩ := h2.yes k v hk e
  obtain ⟨v2, ps, hr, hv⟩ := h1.look_ok keyedI Tryd.underlying38 (zeroI w) (plainElem_int Tryd.underlying3 (by decide)) (keyN hk)
  rw [h4] at hv
  obtain ⟨c, rfl, hc, _⟩ := plainElem_int_inv Tryd.underlying3 hv
  have hc1 := congrArg Prod.fst hc
  simp at hc1
  rw [hr, h3, ← hc1]
theorem litK_ne {k j : Nat} (h : k ≠ j) : litK k ≠ litK j := fun e => by
  injection e with _ e
  exact h (by omega)
theorem MapJ.put (h : MapJ w M) (hn : M.n < 140737488351232) {k v : Nat} (hk : k ≤ 140737488351232) (hv : v ≤ 140737488351232) :
    ∃ w', (Instr.mapUpdate 38 (.map (some M.blk)) (.int .i64 (k : Int)) (.int .i64 (v : Int))).run Tryd.prog w = .ok () w' ∧ MapJ w' ⟨M.blk, M.n + 1, jput M.J k v⟩ ∧ w.grownBy w' (some M.blk) := by
  obtain ⟨D, h1, h2⟩ := h
  obtain ⟨w', hr, o1, g⟩ := h1.update keyedI Tryd.underlying38 (by unfold maxLen; omega) (keyN hk) (plainElem_int Tryd.underlying3 (WalkArith.wf_i64 (by omega) : (Lit.int .i64 (v : Int)).wf = true))
  have hm := h1.isMap
  refine ⟨w', hr, ⟨_, o1, ⟨fun j hj e => ?_, fun j u hj e => ?_⟩⟩, g⟩
  · change (if j = k then some v else M.J j) = none at e
    split at e
    · cases e
    · rename_i hne
      rw [has_put_other (litK_ne hne)]; exact h2.no j hj e
  · change (if j = k then some v else M.J j) = some u at e
    split at e
    · rename_i he
      cases e; subst he
      have hkl : WideAt.IsKeyLit (litK j) := by unfold litK WideAt.IsKeyLit; trivial
      exact ⟨has_put_same hm hkl _, atKey_put_same hm hkl _ _⟩
    · rename_i hne
      rw [has_put_other (litK_ne hne), atKey_put_other (litK_ne hne)]; exact h2.yes j u hj e
/-- the scanner in block P, its map in block M -/
structure Sc (w : World) (P : Nat) (M : GoMap) (s : ByteArray) (at_ en : Nat) (tm : Bool) (tv bv ov : Value) : Prop where
  blk : w.heap[P]? = some (.cells #[.string s, .int .i64 at_, .int .i64 en, .bool tm, tv, bv, ov, .map (some M.blk)] 40 (0, 0))
  mp : MapJ w M
  ne : M.blk ≠ P
variable {P : Nat} {s : ByteArray} {at_ en : Nat} {tm : Bool} {tv bv ov : Value}
theorem Sc.lt (h : Sc w P M s at_ en tm tv bv ov) : P < w.heap.size ∧ M.blk < w.heap.size := ⟨(Array.getElem?_eq_some_iff.1 h.blk).1, h.mp.lt⟩
theorem Sc.cells (h : Sc w P M s at_ en tm tv bv ov) : w.cell? ⟨P, 0, none⟩ = some (.string s) ∧ w.cell? ⟨P, 1, none⟩ = some (.int .i64 at_) ∧ w.cell? ⟨P, 2, none⟩ = some (.int .i64 en) ∧ w.cell? ⟨P, 3, none⟩ = some (.bool tm) ∧
    w.cell? ⟨P, 4, none⟩ = some tv ∧ w.cell? ⟨P, 5, none⟩ = some bv ∧ w.cell? ⟨P, 6, none⟩ = some ov ∧ w.cell? ⟨P, 7, none⟩ = some (.map (some M.blk)) ∧ ∀ j, w.frozen? ⟨P, j, none⟩ = false := by
  simp [World.cell?, World.frozen?, h.blk]
theorem Sc.gr (h : Sc w P M s at_ en tm tv bv ov) (g : Gr w w') : Sc w' P M s at_ en tm tv bv ov :=
  ⟨by rw [g.block _ h.lt.1]; exact h.blk, h.mp.at (g.block _ h.lt.2), h.ne⟩
theorem set_other {P j : Nat} {v : Value} {i : Nat} (h : i ≠ P) : (w.setCell ⟨P, j, none⟩ v).heap[i]? = w.heap[i]? := by
  simp [World.setCell, Array.getElem?_modify, Ne.symm h]
theorem Sc.setAt (h : Sc w P M s at_ en tm tv bv ov) (x : Nat) : Sc (w.setCell ⟨P, 1, none⟩ (.int .i64 x)) P M s x en tm tv bv ov :=
  ⟨by simp [World.setCell, Array.getElem?_modify, h.blk], h.mp.at (set_other h.ne), h.ne⟩
theorem Sc.setEn (h : Sc w P M s at_ en tm tv bv ov) (x : Nat) : Sc (w.setCell ⟨P, 2, none⟩ (.int .i64 x)) P M s at_ x tm tv bv ov :=
  ⟨by simp [World.setCell, Array.getElem?_modify, h.blk], h.mp.at (set_other h.ne), h.ne⟩
theorem Sc.setTm (h : Sc w P M s at_ en tm tv bv ov) (x : Bool) : Sc (w.setCell ⟨P, 3, none⟩ (.bool x)) P M s at_ en x tv bv ov :=
  ⟨by simp [World.setCell, Array.getElem?_modify, h.blk], h.mp.at (set_other h.ne), h.ne⟩
theorem Sc.setTv (h : Sc w P M s at_ en tm tv bv ov) (x : Value) : Sc (w.setCell ⟨P, 4, none⟩ x) P M s at_ en tm x bv ov :=
  ⟨by simp [World.setCell, Array.getElem?_modify, h.blk], h.mp.at (set_other h.ne), h.ne⟩
theorem Sc.setBv (h : Sc w P M s at_ en tm tv bv ov) (x : Value) : Sc (w.setCell ⟨P, 5, none⟩ x) P M s at_ en tm tv x ov :=
  ⟨by simp [World.setCell, Array.getElem?_modify, h.blk], h.mp.at (set_other h.ne), h.ne⟩
theorem Sc.setOv (h : Sc w P M s at_ en tm tv bv ov) (x : Value) : Sc (w.setCell ⟨P, 6, none⟩ x) P M s at_ en tm tv bv x :=
  ⟨by simp [World.setCell, Array.getElem?_modify, h.blk], h.mp.at (set_other h.ne), h.ne⟩
theorem Sc.but {W W' : World} {g : Nat} (h : Sc W P M s at_ en tm tv bv ov) (k : But g W W') (h1 : P ≠ g) (h2 : M.blk ≠ g) : Sc W' P M s at_ en tm tv bv ov :=
  ⟨by rw [k.block _ h.lt.1 (fun e => h1 (by injection e))]; exact h.blk, h.mp.at (k.block _ h.lt.2 (fun e => h2 (by injection e))), h.ne⟩
theorem Sc.below {B : Nat} (h : Sc w P M s at_ en tm tv bv ov) (k : Below B w w') (hP : P < B) (hM : M.blk < B) : Sc w' P M s at_ en tm tv bv ov :=
  ⟨by rw [k.block _ hP]; exact h.blk, h.mp.at (k.block _ hM), h.ne⟩
theorem Sc.grown {r : Option Nat} (h : Sc w P M s at_ en tm tv bv ov) (k : w.grownBy w' r) (h1 : r ≠ some P) (h2 : r ≠ some M.blk) : Sc w' P M s at_ en tm tv bv ov :=
  ⟨by rw [k.block _ h.lt.1 (fun e => h1 e.symm)]; exact h.blk, h.mp.at (k.block _ h.lt.2 (fun e => h2 e.symm)), h.ne⟩
theorem Sc.other (h : Sc w P M s at_ en tm tv bv ov) {g j : Nat} {v : Value} (h1 : g ≠ P) (h2 : g ≠ M.blk) : Sc (w.setCell ⟨g, j, none⟩ v) P M s at_ en tm tv bv ov :=
  ⟨by rw [set_other (Ne.symm h1)]; exact h.blk, h.mp.at (set_other (Ne.symm h2)), h.ne⟩
set_option maxRecDepth 100000 in
theorem step_m (h : Sc w P M s at_ en tm tv bv ov) (hb : at_ ≤ 140737488351232) : Calls Tryd.prog 32 #[.pointer (some ⟨P, 0, none⟩)] w fun e w' => e = .returned (.tuple #[]) ∧ Sc w' P M s (nx M.J at_) en tm tv bv ov ∧ But P w w' := by
  obtain ⟨c0, c1, c2, c3, c4, c5, c6, c7, cf⟩ := h.cells
  have H := Lib.hid h
  cases e : M.J at_ with
  | none =>
    have hn : nx M.J at_ = at_ + 1 := by unfold nx; rw [e]; rfl
    rw [hn]
    have hlk : ∀ q : Nat, (Instr.lookup 38 (.map (some M.blk)) (.int .i64 (at_ : Int)) true).run Tryd.prog (w.drewN q) = .ok (.tuple #[.int .i64 0, .bool false]) (w.drewN q) := fun q => MapJ.look_no (w := w.drewN q) (h.mp.at rfl) hb e
    have b0 : (at_ : Int) + 1 ≤ 9223372036854775807 := by omega
    have b1 : -9223372036854775808 ≤ (at_ : Int) + 1 := by omega
    clear h e hn
    go_enter Tryd.func32, Tryd.ntmps32
    go_wp2_with fail
    go_quiet (fail)
    go_wp2_with fail
    go_end0
    exact ⟨rfl, (H.out.gr ((Gr.refl w).drewN _)).setAt (at_ + 1), (But.of_gr ((Gr.refl w).drewN _)).trans (But.set 1 _)⟩
  | some v =>
    have hn : nx M.J at_ = v := by unfold nx; rw [e]; rfl
    rw [hn]
    have hlk : ∀ q : Nat, (Instr.lookup 38 (.map (some M.blk)) (.int .i64 (at_ : Int)) true).run Tryd.prog (w.drewN q) = .ok (.tuple #[.int .i64 (v : Int), .bool true]) (w.drewN q) := fun q => MapJ.look_yes (w := w.drewN q) (h.mp.at rfl) hb e
    clear h e hn
    go_enter Tryd.func32, Tryd.ntmps32
    go_wp2_with fail
    go_quiet (fail)
    go_wp2_with fail
    first | go_end0 | refine bodyPost_ret (results_none rfl _ _ _) rfl ?_
    exact ⟨rfl, (H.out.gr ((Gr.refl w).drewN _)).setAt v, (But.of_gr ((Gr.refl w).drewN _)).trans (But.set 1 _)⟩
set_option maxRecDepth 100000 in
theorem take_m (h : Sc w P M s at_ en tm tv bv ov) (n : Nat) (hn : at_ + n ≤ s.size) (hs : s.size ≤ 140737488351232) :
    Calls Tryd.prog 59 #[.pointer (some ⟨P, 0, none⟩), .int .i64 n] w fun e w' => e = .returned (.string (s.extract at_ (at_ + n))) ∧ Sc w' P M s (at_ + n) en tm tv bv ov ∧ But P w w' := by
  obtain ⟨c0, c1, c2, c3, c4, c5, c6, c7, cf⟩ := h.cells
  have H := Lib.hid h
  obtain ⟨m, hm⟩ : ∃ m, m = at_ + n := ⟨_, rfl⟩
  have hm' : (at_ : Int) + (n : Int) = (m : Int) := by omega
  have b0 : (m : Int) ≤ 9223372036854775807 := by omega
  have b1 : (m : Int) ≤ (s.size : Int) := by omega
  have b2 : (at_ : Int) ≤ (m : Int) := by omega
  rw [← hm]
  clear h hm hn
  go_enter Tryd.func59, Tryd.ntmps59
  go_wp2_with fail
  go_quiet (fail)
  go_wp2_with fail
  go_ret
  exact ⟨rfl, (H.out.gr ((Gr.refl w).drewN _)).setAt m, (But.of_gr ((Gr.refl w).drewN _)).trans (But.set 1 _)⟩
end Go.Proofs.YthmopindibdhnaaDoor.G
