/- GTk GTk2 GTk3 GTk4 GLast -/
import Derived.Test.YthmopindibdhnaaDoorM17
import Derived.Test.YthmopindibdhnaaDoorM10
import Derived.BigRegion
namespace Go.Proofs.YthmopindibdhnaaDoor.G
open Go.RowKit Go.Shelf Go.Maps
def ba (l : List UInt8) : ByteArray := ⟨l.toArray⟩
/-- the text of a token that was read -/
def textP (t : RTok) : List UInt8 := if t.form = 0 then t.raw else if t.form = 1 then plL t.o t.raw else if t.form = 2 then inL t.o t.raw else if t.form = 3 then wordsP (plL t.o t.raw) else if t.form = 4 then wsL t.raw else if t.form = 5 then wsL t.raw else if t.form = 6 then plL t.o t.raw else inL 34 t.raw
def replP (t : RTok) : List UInt8 := if t.form = 5 then wsL (inL t.o2 t.raw2) else if t.form = 6 then plL t.o2 t.raw2 else []
def rend0 (t : RTok) : Tok := ⟨t.kind, 0, ba (textP t), ba (replP t), ba t.more, 0⟩
variable {w w' : World} {P : Nat} {M : GoMap} {s : ByteArray} {at_ en : Nat} {tm : Bool} {tv bv ov : Value}
/-- what is behind a token -/
def Behind (l : List UInt8) (M : GoMap) (a : Nat) (R2 : Src) (M' : GoMap) (b : Nat) : Prop :=
  R2 = rest l M'.J b ∧ a < b ∧ b ≤ l.length ∧ JOk l M'.J ∧ JPast l M'.J b ∧ M'.n ≤ M.n + 1
def TokP (s : ByteArray) (P : Nat) (M : GoMap) (en : Nat) (tm : Bool) (tv bv ov : Value) (a : Nat) (w : World) (X : Option (RTok × Src)) (e : Ending) (w' : World) : Prop :=
  match X with
  | none => Bad s e ∧ Bt P M.blk w w'
  | some r => ∃ M' b, e = .returned (rend0 r.1).val ∧ Sc w' P M' s b en tm tv bv ov ∧ Bt P M.blk w w' ∧ M'.blk = M.blk ∧ Behind s.data.toList M a r.2 M' b
theorem quoteL_some {X : List UInt8} {k : Int} {n : Nat} (h : quoteL X = some (k, n)) : (∃ c, X[n]? = some c ∧ delimB c.toNat = true) ∧ (k = 4 ∨ k = 5 ∨ k = 6 ∨ k = 7 ∨ k = 8 ∨ k = 9) := by
  unfold quoteL at h
  cases e : X[wordN X]? with
  | none => rw [e] at h; cases h
  | some c =>
    rw [e] at h
    simp only at h
    split at h
    · rename_i hd
      cases hk : kindL (wordOr X) with
      | none => rw [hk] at h; cases h
      | some kk =>
        rw [hk] at h
        simp only [Option.map_some, Option.some.injEq, Prod.mk.injEq] at h
        obtain ⟨rfl, rfl⟩ := h
        refine ⟨⟨c, e, hd⟩, ?_⟩
        unfold kindL at hk
        split at hk
        · cases hk; simp
        · split at hk
          · cases hk; simp
          · split at hk
            · cases hk; simp
            · split at hk
              · cases hk; simp
              · split at hk
                · cases hk; simp
                · split at hk
                  · cases hk; simp
                  · cases hk
    · cases h
theorem nx_plain {l : List UInt8} {J : Nat → Option Nat} {a : Nat} {c : UInt8} (hJ : JOk l J) (hc : l[a]? = some c) (h10 : c ≠ 10) : nx J a = a + 1 := by
  unfold nx
  cases e : J a with
  | none => rfl
  | some v =>
    have := hJ.nl a v e
    rw [hc] at this
    exact absurd (Option.some.inj this) h10
/-- bytes of the line, as they are, are a token -/
theorem as_is (hJ : JOk s.data.toList M.J) (hPa : JPast s.data.toList M.J at_) (hat : at_ ≤ s.data.toList.length) {k n : Nat} (h0 : 0 < n) (hn : n ≤ (lineOf s.data.toList at_).length) :
    rend0 (asIs k n (rest s.data.toList M.J at_)).1 = tok k (s.extract at_ (at_ + n)) ∧ Behind s.data.toList M at_ (asIs k n (rest s.data.toList M.J at_)).2 M (at_ + n) := by
  obtain ⟨h1, h2⟩ := line3 hJ at_ hat
  have hll := line_le s.data.toList at_ hat
  refine ⟨?_, h2 n hn, by omega, by omega, hJ, hPa.mono (by omega), by omega⟩
  have : rend0 (asIs k n (rest s.data.toList M.J at_)).1 = tok k (ba ((byt (rest s.data.toList M.J at_)).take n)) := rfl
  rw [this, ba_ext, take_line h1 hn]
  rfl
section
variable {w0 : World} {K : Nat} {tk : Tok}
theorem finds_of {C : GoMap → Nat → Prop} {a b : Nat} (h : ∀ W, Sc W P M s a en tm tv bv ov → Calls Tryd.prog K #[.pointer (some ⟨P, 0, none⟩)] W fun e w' => e = .returned (.tuple #[tk.val, .bool true]) ∧ Sc w' P M s b en tm tv bv ov ∧ But P W w') (hC : C M b) : FindsG w0 K P M s a en tm tv bv ov tk C :=
  fun W _ hS => (h W hS).mono fun _ _ ⟨h1, h2, h3⟩ => ⟨M, b, h1, h2, Bt.of_but h3, rfl, hC⟩
theorem reads_of {C : GoMap → Nat → Prop} {a b : Nat} (h : ∀ W, Sc W P M s a en tm tv bv ov → Calls Tryd.prog K #[.pointer (some ⟨P, 0, none⟩)] W fun e w' => e = .returned tk.val ∧ Sc w' P M s b en tm tv bv ov ∧ But P W w') (hC : C M b) : ReadsG w0 K P M s a en tm tv bv ov tk C :=
  fun W _ hS => (h W hS).mono fun _ _ ⟨h1, h2, h3⟩ => ⟨M, b, h1, h2, Bt.of_but h3, rfl, hC⟩
theorem none_of {a : Nat} (h : ∀ W, Sc W P M s a en tm tv bv ov → Calls Tryd.prog K #[.pointer (some ⟨P, 0, none⟩)] W fun e w' => e = .returned (.tuple #[tok0.val, .bool false]) ∧ Sc w' P M s a en tm tv bv ov ∧ But P W w') : FindsN w0 K P M s a en tm tv bv ov :=
  fun W _ hS => (h W hS).mono fun _ _ ⟨h1, h2, h3⟩ => ⟨h1, h2, Bt.of_but h3⟩
theorem fails_of {a : Nat} (h : ∀ W, Sc W P M s a en tm tv bv ov → Calls Tryd.prog K #[.pointer (some ⟨P, 0, none⟩)] W fun e w' => Bad s e ∧ But P W w') : FailsG w0 K P M s a en tm tv bv ov :=
  fun W _ hS => (h W hS).mono fun _ _ ⟨h1, h3⟩ => ⟨h1, Bt.of_but h3⟩
end
theorem digR_off (l : List UInt8) (a : Nat) : ∀ f n g, l.length ≤ a + n + f → (l.drop a).length ≤ n + g → digR l f (a + n) = a + digR (l.drop a) g n
  | 0, n, g, hf, _ => by rw [digR_end (by omega), digR_end (by rw [List.length_drop]; omega)]
  | f + 1, n, g, hf, hg => by
    by_cases hn : a + n < l.length
    · have hd : n < (l.drop a).length := by rw [List.length_drop]; omega
      have he : (l.drop a)[n] = l[a + n] := by rw [List.getElem_drop]
      by_cases hc : digB l[a + n].toNat = true
      · cases g with
        | zero => omega
        | succ g =>
          rw [digR, digR, List.getElem?_eq_getElem hn, List.getElem?_eq_getElem hd]
          simp only [he, hc, if_true]
          exact digR_off l a f (n + 1) g (by omega) (by omega)
      · have hc' : digB l[a + n].toNat = false := by simpa using hc
        rw [digR_stop hn hc', digR_stop hd (by rw [he]; exact hc')]
    · rw [digR_end (by omega), digR_end (by rw [List.length_drop]; omega)]
theorem digR_ge (l : List UInt8) : ∀ f n, n ≤ digR l f n
  | 0, n => Nat.le_refl n
  | f + 1, n => by
    rw [digR]
    split
    · exact Nat.le_refl n
    · split
      · have := digR_ge l f (n + 1); omega
      · exact Nat.le_refl n
/-- words, numbers and signs -/
theorem plain_tok (hs : s.size ≤ 4000) (hJ : JOk s.data.toList M.J) (hPa : JPast s.data.toList M.J at_) (x : UInt8) (hx : s.data.toList[at_]? = some x) :
    (alphaB x.toNat = true → (wordN (s.data.toList.drop at_) ≤ 12 → plainS (rest s.data.toList M.J at_) tm = some (asIs 0 (wordN (s.data.toList.drop at_)) (rest s.data.toList M.J at_)) ∧ ReadsG w 43 P M s at_ en tm tv bv ov (tok 0 (s.extract at_ (at_ + wordN (s.data.toList.drop at_)))) (Behind s.data.toList M at_ (asIs 0 (wordN (s.data.toList.drop at_)) (rest s.data.toList M.J at_)).2)) ∧
      (12 < wordN (s.data.toList.drop at_) → plainS (rest s.data.toList M.J at_) tm = none ∧ FailsG w 43 P M s at_ en tm tv bv ov)) := by
  have hL : at_ < s.data.toList.length := (List.getElem?_eq_some_iff.1 hx).1
  have hat : at_ < s.size := by rw [sizeL] at hL; exact hL
  obtain ⟨h1, h2⟩ := line3 hJ at_ (by omega)
  obtain ⟨e1, e2⟩ := word_line h1
  have hr := rest_cons hJ hL
  have hxe : s.data.toList[at_] = x := (List.getElem?_eq_some_iff.1 hx).2
  intro ha
  have hpl : plainS (rest s.data.toList M.J at_) tm = if wordN (byt (rest s.data.toList M.J at_)) ≤ 12 then some (asIs 0 (wordN (byt (rest s.data.toList M.J at_))) (rest s.data.toList M.J at_)) else none := by
    conv => lhs; rw [hr]
    unfold plainS
    simp only [hxe, ha, if_true]
    rw [← hxe, ← hr]
  rw [hpl, ← e1]
  have h0 : 0 < wordN (s.data.toList.drop at_) := by
    have hd : 0 < (s.data.toList.drop at_).length := by rw [List.length_drop]; omega
    have hdx : (s.data.toList.drop at_)[0] = x := by rw [List.getElem_drop]; exact hxe
    rw [wordN_yes hd (by rw [hdx]; exact ha)]
    have := (wordR_le (l := s.data.toList.drop at_) (s.data.toList.drop at_).length 1 hd).2
    omega
  refine ⟨fun h12 => ?_, fun h12 => ?_⟩
  · rw [if_pos h12]
    exact ⟨rfl, reads_of (fun W hS => word_m hS (by omega) _ rfl h12 (by omega)) (as_is hJ hPa (by omega) h0 e2).2⟩
  · rw [if_neg (by omega)]
    exact ⟨rfl, fails_of fun W hS => word_bad hS hat h12 (by omega)⟩
end Go.Proofs.YthmopindibdhnaaDoor.G
namespace Go.Proofs.YthmopindibdhnaaDoor.G
open Go.RowKit Go.Shelf Go.Maps
variable {w w' : World} {P : Nat} {M : GoMap} {s : ByteArray} {at_ en : Nat} {tm : Bool} {tv bv ov : Value}
theorem tokp_of {X : Option (RTok × Src)} {r : RTok × Src} {tk : Tok} (hX : X = some r) (htk : rend0 r.1 = tk)
    (k : Calls Tryd.prog 34 #[.pointer (some ⟨P, 0, none⟩)] w fun e w' => ∃ M' b, e = .returned tk.val ∧ Sc w' P M' s b en tm tv bv ov ∧ Bt P M.blk w w' ∧ M'.blk = M.blk ∧ Behind s.data.toList M at_ r.2 M' b) :
    Calls Tryd.prog 34 #[.pointer (some ⟨P, 0, none⟩)] w (TokP s P M en tm tv bv ov at_ w X) :=
  k.mono fun e w' k => by subst hX; subst htk; exact k
theorem tokp_no {X : Option (RTok × Src)} (hX : X = none) (k : Calls Tryd.prog 34 #[.pointer (some ⟨P, 0, none⟩)] w fun e w' => Bad s e ∧ Bt P M.blk w w') :
    Calls Tryd.prog 34 #[.pointer (some ⟨P, 0, none⟩)] w (TokP s P M en tm tv bv ov at_ w X) :=
  k.mono fun e w' k => by subst hX; exact k
theorem plain_f (h : Sc w P M s at_ en false tv bv ov) (hs : s.size ≤ 4000) (hJ : JOk s.data.toList M.J) (hPa : JPast s.data.toList M.J at_) (hat : at_ < s.size) :
    Calls Tryd.prog 34 #[.pointer (some ⟨P, 0, none⟩)] w (TokP s P M en false tv bv ov at_ w (plainS (rest s.data.toList M.J at_) false)) := by
  have hL : at_ < s.data.toList.length := by rw [sizeL]; exact hat
  obtain ⟨x, hx⟩ : ∃ x, s.data.toList[at_]? = some x := ⟨_, List.getElem?_eq_getElem hL⟩
  have hxe : s.data.toList[at_] = x := (List.getElem?_eq_some_iff.1 hx).2
  obtain ⟨h1, h2⟩ := line3 hJ at_ (by omega)
  obtain ⟨e1, e2⟩ := word_line h1
  have hr := rest_cons hJ hL
  have hD0 : (s.data.toList.drop at_)[0]? = some x := by rw [List.getElem?_drop]; exact hx
  cases ha : alphaB x.toNat with
  | true =>
    obtain ⟨p1, p2⟩ := plain_tok (w := w) (P := P) (M := M) (at_ := at_) (en := en) (tm := false) (tv := tv) (bv := bv) (ov := ov) hs hJ hPa x hx ha
    have h0 : 0 < wordN (s.data.toList.drop at_) := by
      have hd : 0 < (s.data.toList.drop at_).length := by rw [List.length_drop]; omega
      have hdx : (s.data.toList.drop at_)[0] = x := by rw [List.getElem_drop]; exact hxe
      rw [wordN_yes hd (by rw [hdx]; exact ha)]
      have := (wordR_le (l := s.data.toList.drop at_) (s.data.toList.drop at_).length 1 hd).2
      omega
    by_cases h12 : wordN (s.data.toList.drop at_) ≤ 12
    · obtain ⟨q1, q2⟩ := p1 h12
      exact tokp_of q1 (as_is hJ hPa (by omega) h0 e2).1 (tk_word_f h hx ha q2)
    · obtain ⟨q1, q2⟩ := p2 (by omega)
      exact tokp_no q1 (tk_word_f_bad h hx ha q2)
  | false =>
    cases hd : digB x.toNat with
    | true =>
      obtain ⟨d1, d2⟩ := dig_line h1 hD0 hd
      have hpl : plainS (rest s.data.toList M.J at_) false = some (asIs 1 (digN (s.data.toList.drop at_)) (rest s.data.toList M.J at_)) := by
        rw [d1]
        conv => lhs; rw [hr]
        unfold plainS
        simp only [hxe, ha, hd, if_true, Bool.false_eq_true, if_false]
        rw [← hxe, ← hr]
      have hoff : digR s.data.toList s.size (at_ + 1) = at_ + digN (s.data.toList.drop at_) := by
        unfold digN
        exact digR_off s.data.toList at_ s.size 1 _ (by rw [sizeL]; omega) (by omega)
      have h0 : 0 < digN (s.data.toList.drop at_) := by
        unfold digN
        exact digR_ge (s.data.toList.drop at_) (s.data.toList.drop at_).length 1
      have hN := fun (W : World) (hS : Sc W P M s at_ en false tv bv ov) => number_m hS hat (by omega)
      rw [hoff] at hN
      obtain ⟨a1, a2⟩ := as_is (k := 1) hJ hPa (by omega) h0 d2
      exact tokp_of hpl a1 (tk_number_f h hx ha hd (reads_of hN a2))
    | false =>
      obtain ⟨s1, s2⟩ := signS_line h1 false
      have hpl : plainS (rest s.data.toList M.J at_) false = if 0 < signS (s.data.toList.drop at_) false then some (asIs 3 (signS (s.data.toList.drop at_) false) (rest s.data.toList M.J at_)) else none := by
        rw [s1]
        conv => lhs; rw [hr]
        unfold plainS
        simp only [hxe, ha, hd, Bool.false_eq_true, if_false]
        rw [← hxe, ← hr]
      by_cases h0 : 0 < signS (s.data.toList.drop at_) false
      · rw [if_pos h0] at hpl
        obtain ⟨a1, a2⟩ := as_is (k := 3) hJ hPa (by omega) h0 s2
        refine tokp_of hpl a1 (tk_sign_f h hx ha hd (reads_of (fun W hS => ?_) a2))
        by_cases hn : 0 < signN (s.data.toList.drop at_)
        · have hsn : signS (s.data.toList.drop at_) false = signN (s.data.toList.drop at_) := by unfold signS; rw [if_pos hn]
          rw [hsn]
          exact sign_m hS (by omega) (by omega) _ rfl hn
        · have hcond : false = true ∧ ((s.data.toList.drop at_)[0]? = some 36 ∨ (s.data.toList.drop at_)[0]? = some 64) ∧ ((s.data.toList.drop at_)[1]? = some 36 ∨ (s.data.toList.drop at_)[1]? = some 123) := by
            apply Classical.byContradiction
            intro hc
            unfold signS at h0
            rw [if_neg hn, if_neg hc] at h0
            omega
          have hsn : signS (s.data.toList.drop at_) false = 1 := by unfold signS; rw [if_neg hn, if_pos hcond]
          rw [hsn]
          obtain ⟨c1, c2, c3⟩ := hcond
          rw [List.getElem?_drop, Nat.add_zero, hx] at c2
          rw [List.getElem?_drop] at c3
          have c2' : x = 36 ∨ x = 64 := by simpa using c2
          rcases c3 with c3 | c3
          · exact sign_of hS (by omega) x hx (by omega) 36 c3 c1 c2' (.inl rfl)
          · exact sign_of hS (by omega) x hx (by omega) 123 c3 c1 c2' (.inr rfl)
      · rw [if_neg h0] at hpl
        refine tokp_no hpl (tk_sign_f_bad h hx ha hd (fails_of fun W hS => ?_))
        have hn : ¬ 0 < signN (s.data.toList.drop at_) := fun hn => by unfold signS at h0; rw [if_pos hn] at h0; exact h0 hn
        have hc : ¬ (false = true ∧ ((s.data.toList.drop at_)[0]? = some 36 ∨ (s.data.toList.drop at_)[0]? = some 64) ∧ ((s.data.toList.drop at_)[1]? = some 36 ∨ (s.data.toList.drop at_)[1]? = some 123)) := fun hc => by
          unfold signS at h0; rw [if_neg hn, if_pos hc] at h0; omega
        cases h1e : s.data.toList[at_ + 1]? with
        | none => exact sign_bad1 hS (by omega) x hx (by omega) (.inr (.inr (by have := List.getElem?_eq_none_iff.1 h1e; rw [sizeL] at this; omega)))
        | some d =>
          by_cases hdd : d ≠ 36 ∧ d ≠ 123
          · exact sign_bad2 hS (by omega) x hx (by omega) d h1e hdd
          · refine sign_bad1 hS (by omega) x hx (by omega) ?_
            rw [List.getElem?_drop, List.getElem?_drop, Nat.add_zero, hx, h1e] at hc
            have hdd' : d = 36 ∨ d = 123 := by
              by_cases h36 : d = 36
              · exact .inl h36
              · by_cases h123 : d = 123
                · exact .inr h123
                · exact absurd ⟨h36, h123⟩ hdd
            by_cases hxx : x = 36 ∨ x = 64
            · exact .inl (by first | rfl | exact absurd ⟨rfl, by simpa using hxx, by simpa using hdd'⟩ hc)
            · exact .inr (.inl ⟨fun e => hxx (.inl e), fun e => hxx (.inr e)⟩)
theorem plain_t (h : Sc w P M s at_ en true tv bv ov) (hq : FindsN w 39 P M s at_ en true tv bv ov) (hh : FindsN w 40 P M s at_ en true tv bv ov) (hv : FindsN w 41 P M s at_ en true tv bv ov) (hs : s.size ≤ 4000) (hJ : JOk s.data.toList M.J) (hPa : JPast s.data.toList M.J at_) (hat : at_ < s.size) :
    Calls Tryd.prog 34 #[.pointer (some ⟨P, 0, none⟩)] w (TokP s P M en true tv bv ov at_ w (plainS (rest s.data.toList M.J at_) true)) := by
  have hL : at_ < s.data.toList.length := by rw [sizeL]; exact hat
  obtain ⟨x, hx⟩ : ∃ x, s.data.toList[at_]? = some x := ⟨_, List.getElem?_eq_getElem hL⟩
  have hxe : s.data.toList[at_] = x := (List.getElem?_eq_some_iff.1 hx).2
  obtain ⟨h1, h2⟩ := line3 hJ at_ (by omega)
  obtain ⟨e1, e2⟩ := word_line h1
  have hr := rest_cons hJ hL
  have hD0 : (s.data.toList.drop at_)[0]? = some x := by rw [List.getElem?_drop]; exact hx
  cases ha : alphaB x.toNat with
  | true =>
    obtain ⟨p1, p2⟩ := plain_tok (w := w) (P := P) (M := M) (at_ := at_) (en := en) (tm := true) (tv := tv) (bv := bv) (ov := ov) hs hJ hPa x hx ha
    have h0 : 0 < wordN (s.data.toList.drop at_) := by
      have hd : 0 < (s.data.toList.drop at_).length := by rw [List.length_drop]; omega
      have hdx : (s.data.toList.drop at_)[0] = x := by rw [List.getElem_drop]; exact hxe
      rw [wordN_yes hd (by rw [hdx]; exact ha)]
      have := (wordR_le (l := s.data.toList.drop at_) (s.data.toList.drop at_).length 1 hd).2
      omega
    by_cases h12 : wordN (s.data.toList.drop at_) ≤ 12
    · obtain ⟨q1, q2⟩ := p1 h12
      exact tokp_of q1 (as_is hJ hPa (by omega) h0 e2).1 (tk_word_t h hq hh hv hx ha q2)
    · obtain ⟨q1, q2⟩ := p2 (by omega)
      exact tokp_no q1 (tk_word_t_bad h hq hh hv hx ha q2)
  | false =>
    cases hd : digB x.toNat with
    | true =>
      obtain ⟨d1, d2⟩ := dig_line h1 hD0 hd
      have hpl : plainS (rest s.data.toList M.J at_) true = some (asIs 1 (digN (s.data.toList.drop at_)) (rest s.data.toList M.J at_)) := by
        rw [d1]
        conv => lhs; rw [hr]
        unfold plainS
        simp only [hxe, ha, hd, if_true, Bool.false_eq_true, if_false]
        rw [← hxe, ← hr]
      have hoff : digR s.data.toList s.size (at_ + 1) = at_ + digN (s.data.toList.drop at_) := by
        unfold digN
        exact digR_off s.data.toList at_ s.size 1 _ (by rw [sizeL]; omega) (by omega)
      have h0 : 0 < digN (s.data.toList.drop at_) := by
        unfold digN
        exact digR_ge (s.data.toList.drop at_) (s.data.toList.drop at_).length 1
      have hN := fun (W : World) (hS : Sc W P M s at_ en true tv bv ov) => number_m hS hat (by omega)
      rw [hoff] at hN
      obtain ⟨a1, a2⟩ := as_is (k := 1) hJ hPa (by omega) h0 d2
      exact tokp_of hpl a1 (tk_number_t h hq hh hv hx ha hd (reads_of hN a2))
    | false =>
      obtain ⟨s1, s2⟩ := signS_line h1 true
      have hpl : plainS (rest s.data.toList M.J at_) true = if 0 < signS (s.data.toList.drop at_) true then some (asIs 3 (signS (s.data.toList.drop at_) true) (rest s.data.toList M.J at_)) else none := by
        rw [s1]
        conv => lhs; rw [hr]
        unfold plainS
        simp only [hxe, ha, hd, Bool.false_eq_true, if_false]
        rw [← hxe, ← hr]
      by_cases h0 : 0 < signS (s.data.toList.drop at_) true
      · rw [if_pos h0] at hpl
        obtain ⟨a1, a2⟩ := as_is (k := 3) hJ hPa (by omega) h0 s2
        refine tokp_of hpl a1 (tk_sign_t h hq hh hv hx ha hd (reads_of (fun W hS => ?_) a2))
        by_cases hn : 0 < signN (s.data.toList.drop at_)
        · have hsn : signS (s.data.toList.drop at_) true = signN (s.data.toList.drop at_) := by unfold signS; rw [if_pos hn]
          rw [hsn]
          exact sign_m hS (by omega) (by omega) _ rfl hn
        · have hcond : true = true ∧ ((s.data.toList.drop at_)[0]? = some 36 ∨ (s.data.toList.drop at_)[0]? = some 64) ∧ ((s.data.toList.drop at_)[1]? = some 36 ∨ (s.data.toList.drop at_)[1]? = some 123) := by
            apply Classical.byContradiction
            intro hc
            unfold signS at h0
            rw [if_neg hn, if_neg hc] at h0
            omega
          have hsn : signS (s.data.toList.drop at_) true = 1 := by unfold signS; rw [if_neg hn, if_pos hcond]
          rw [hsn]
          obtain ⟨c1, c2, c3⟩ := hcond
          rw [List.getElem?_drop, Nat.add_zero, hx] at c2
          rw [List.getElem?_drop] at c3
          have c2' : x = 36 ∨ x = 64 := by simpa using c2
          rcases c3 with c3 | c3
          · exact sign_of hS (by omega) x hx (by omega) 36 c3 c1 c2' (.inl rfl)
          · exact sign_of hS (by omega) x hx (by omega) 123 c3 c1 c2' (.inr rfl)
      · rw [if_neg h0] at hpl
        refine tokp_no hpl (tk_sign_t_bad h hq hh hv hx ha hd (fails_of fun W hS => ?_))
        have hn : ¬ 0 < signN (s.data.toList.drop at_) := fun hn => by unfold signS at h0; rw [if_pos hn] at h0; exact h0 hn
        have hc : ¬ (true = true ∧ ((s.data.toList.drop at_)[0]? = some 36 ∨ (s.data.toList.drop at_)[0]? = some 64) ∧ ((s.data.toList.drop at_)[1]? = some 36 ∨ (s.data.toList.drop at_)[1]? = some 123)) := fun hc => by
          unfold signS at h0; rw [if_neg hn, if_pos hc] at h0; omega
        cases h1e : s.data.toList[at_ + 1]? with
        | none => exact sign_bad1 hS (by omega) x hx (by omega) (.inr (.inr (by have := List.getElem?_eq_none_iff.1 h1e; rw [sizeL] at this; omega)))
        | some d =>
          by_cases hdd : d ≠ 36 ∧ d ≠ 123
          · exact sign_bad2 hS (by omega) x hx (by omega) d h1e hdd
          · refine sign_bad1 hS (by omega) x hx (by omega) ?_
            rw [List.getElem?_drop, List.getElem?_drop, Nat.add_zero, hx, h1e] at hc
            have hdd' : d = 36 ∨ d = 123 := by
              by_cases h36 : d = 36
              · exact .inl h36
              · by_cases h123 : d = 123
                · exact .inr h123
                · exact absurd ⟨h36, h123⟩ hdd
            by_cases hxx : x = 36 ∨ x = 64
            · exact .inl (by first | rfl | exact absurd ⟨rfl, by simpa using hxx, by simpa using hdd'⟩ hc)
            · exact .inr (.inl ⟨fun e => hxx (.inl e), fun e => hxx (.inr e)⟩)
end Go.Proofs.YthmopindibdhnaaDoor.G
namespace Go.Proofs.YthmopindibdhnaaDoor.G
open Go.RowKit Go.Shelf Go.Maps
variable {w w' : World} {P : Nat} {M : GoMap} {s : ByteArray} {at_ en : Nat} {tm : Bool} {tv bv ov : Value}
theorem var_all (hs : s.size ≤ 4000) (hJ : JOk s.data.toList M.J) (hPa : JPast s.data.toList M.J at_) (hat : at_ < s.size) :
    (varS false (s.data.toList.drop at_) = none → FailsG w 41 P M s at_ en tm tv bv ov) ∧ (varS false (s.data.toList.drop at_) = some 0 → FindsN w 41 P M s at_ en tm tv bv ov) ∧
    (∀ n, varS false (s.data.toList.drop at_) = some (n + 1) → FindsG w 41 P M s at_ en tm tv bv ov (rend0 (asIs 2 (n + 1) (rest s.data.toList M.J at_)).1) (Behind s.data.toList M at_ (asIs 2 (n + 1) (rest s.data.toList M.J at_)).2)) := by
  have hL : at_ < s.data.toList.length := by rw [sizeL]; exact hat
  obtain ⟨x, hx⟩ : ∃ x, s.data.toList[at_]? = some x := ⟨_, List.getElem?_eq_getElem hL⟩
  have hxe : s.data.toList[at_] = x := (List.getElem?_eq_some_iff.1 hx).2
  have hD : s.data.toList.drop at_ = x :: s.data.toList.drop (at_ + 1) := by rw [List.drop_eq_getElem_cons hL, hxe]
  obtain ⟨h1, h2⟩ := line3 hJ at_ (by omega)
  obtain ⟨v1, v2⟩ := varS_line h1 false
  have hyes : ∀ n, varS false (s.data.toList.drop at_) = some (n + 1) → (∀ W, Sc W P M s at_ en tm tv bv ov → Calls Tryd.prog 41 #[.pointer (some ⟨P, 0, none⟩)] W fun e w' => e = .returned (.tuple #[(tok 2 (s.extract at_ (at_ + (n + 1)))).val, .bool true]) ∧ Sc w' P M s (at_ + (n + 1)) en tm tv bv ov ∧ But P W w') →
      FindsG w 41 P M s at_ en tm tv bv ov (rend0 (asIs 2 (n + 1) (rest s.data.toList M.J at_)).1) (Behind s.data.toList M at_ (asIs 2 (n + 1) (rest s.data.toList M.J at_)).2) := fun n hn k => by
    obtain ⟨a1, a2⟩ := as_is (k := 2) hJ hPa (by omega) (Nat.succ_pos n) (v2 (n + 1) hn)
    rw [a1]
    exact finds_of k a2
  cases hsg : sigilB x.toNat with
  | false =>
    have hv : varS false (s.data.toList.drop at_) = some 0 := by
      rw [hD]
      unfold varS
      cases s.data.toList.drop (at_ + 1) with
      | nil => rfl
      | cons d t => simp only [hsg]; rfl
    rw [hv]
    exact ⟨(fun h => nomatch h), fun _ => none_of fun W hS => variable_no hS hat (by omega) x hx hsg, (fun n h => nomatch h)⟩
  | true =>
    cases ht : s.data.toList.drop (at_ + 1) with
    | nil =>
      have hv : varS false (s.data.toList.drop at_) = some 0 := by rw [hD, ht]; rfl
      have hz : at_ + 1 = s.size := by have := congrArg List.length ht; rw [List.length_drop, sizeL] at this; simp at this; omega
      rw [hv]
      exact ⟨(fun h => nomatch h), fun _ => none_of fun W hS => variable_end hS (by omega) x hx hsg hz, (fun n h => nomatch h)⟩
    | cons d t =>
      have hd : s.data.toList[at_ + 1]? = some d := by
        have := List.getElem?_drop (xs := s.data.toList) (i := at_ + 1) (j := 0)
        rw [ht, Nat.add_zero] at this
        exact this.symm
      have hd1 : at_ + 1 < s.size := by have := (List.getElem?_eq_some_iff.1 hd).1; rw [sizeL] at this; exact this
      have hv : varS false (s.data.toList.drop at_) = if 12 < wordN (d :: t) then (if d ≠ 95 then none else some 0) else if 0 < wordN (d :: t) then some (1 + wordN (d :: t)) else if x = 36 ∧ specB d.toNat = true then some 2 else some 0 := by
        rw [hD, ht]
        unfold varS
        simp only [hsg, if_true, Bool.false_eq_true, false_or]
      by_cases h12 : 12 < wordN (d :: t)
      · rw [if_pos h12] at hv
        by_cases h95 : d = 95
        · rw [if_neg (by simpa using h95)] at hv
          rw [hv]
          exact ⟨(fun h => nomatch h), fun _ => none_of fun W hS => variable_us hS (by omega) x hx hsg d hd _ (by rw [ht]) h12 h95, (fun n h => nomatch h)⟩
        · rw [if_pos h95] at hv
          rw [hv]
          exact ⟨fun _ => fails_of fun W hS => variable_bad hS (by omega) x hx hsg d hd _ (by rw [ht]) h12 h95, (fun h => nomatch h), (fun n h => nomatch h)⟩
      · rw [if_neg h12] at hv
        by_cases h0 : 0 < wordN (d :: t)
        · rw [if_pos h0] at hv
          refine ⟨(fun h => by rw [hv] at h; cases h), (fun h => by rw [hv] at h; simp only [Option.some.injEq] at h; omega), fun n h => hyes n h fun W hS => ?_⟩
          rw [hv] at h
          simp only [Option.some.injEq] at h
          rw [← h]
          exact variable_yes hS hd1 (by omega) x hx hsg _ (by rw [ht]) h0 (by omega)
        · rw [if_neg h0] at hv
          have hw0 : wordN (d :: t) = 0 := by omega
          by_cases h36 : x = 36
          · cases hsp : specB d.toNat with
            | true =>
              rw [if_pos ⟨h36, hsp⟩] at hv
              refine ⟨(fun h => by rw [hv] at h; cases h), (fun h => by rw [hv] at h; cases h), fun n h => hyes n h fun W hS => ?_⟩
              rw [hv] at h
              cases h
              exact variable_sp hS (by omega) x hx hsg d hd (by rw [ht]; exact hw0) h36 hsp
            | false =>
              rw [if_neg (by simp [hsp])] at hv
              rw [hv]
              exact ⟨(fun h => nomatch h), fun _ => none_of fun W hS => variable_n2 hS (by omega) x hx hsg d hd (by rw [ht]; exact hw0) h36 hsp, (fun n h => nomatch h)⟩
          · rw [if_neg (fun h => h36 h.1)] at hv
            rw [hv]
            exact ⟨(fun h => nomatch h), fun _ => none_of fun W hS => variable_n1 hS (by omega) x hx hsg d hd (by rw [ht]; exact hw0) h36, (fun n h => nomatch h)⟩
theorem pre_two (l : List UInt8) : Lib.hasPrefix l [60, 60] = true ↔ l[0]? = some 60 ∧ l[1]? = some 60 := by
  unfold Lib.hasPrefix
  cases l with
  | nil => simp
  | cons a t =>
    cases t with
    | nil => simp
    | cons b t =>
      show ((60 == a) && ((60 == b) && true)) = true ↔ some a = some 60 ∧ some b = some 60
      rw [Bool.and_true, Bool.and_eq_true, beq_iff_eq, beq_iff_eq]
      exact ⟨fun ⟨h1, h2⟩ => ⟨by rw [← h1], by rw [← h2]⟩, fun ⟨h1, h2⟩ => ⟨(Option.some.inj h1).symm, (Option.some.inj h2).symm⟩⟩
theorem here_all (hs : s.size ≤ 4000) (hJ : JOk s.data.toList M.J) (hPa : JPast s.data.toList M.J at_) (hat : at_ < s.size) (hMn : M.n ≤ 4000) :
    (hereS (s.data.toList.drop at_) = none → FindsN w 40 P M s at_ en tm tv bv ov) ∧
    (∀ n name more, hereS (s.data.toList.drop at_) = some (n, name, more) → (cutS name (rest s.data.toList M.J (at_ + n)) = none → FailsG w 40 P M s at_ en tm tv bv ov) ∧
      (∀ body R2, cutS name (rest s.data.toList M.J (at_ + n)) = some (body, R2) → FindsG w 40 P M s at_ en tm tv bv ov (rend0 ⟨if more = true then 5 else 4, at_, if more = true then 7 else 0, body, [], [], 0, 0, 0⟩) (Behind s.data.toList M at_ R2))) := by
  have hL : at_ < s.data.toList.length := by rw [sizeL]; exact hat
  obtain ⟨h1, h2⟩ := line3 hJ at_ (by omega)
  obtain ⟨v1, v2⟩ := here_line h1
  have hll := line_le s.data.toList at_ (by omega)
  cases hp : Lib.hasPrefix (s.data.toList.drop at_) [60, 60] with
  | false =>
    have hn : hereS (s.data.toList.drop at_) = none := by
      unfold hereS
      rw [if_neg]
      intro h
      have := (pre_two _).2 h
      rw [hp] at this; cases this
    rw [hn]
    exact ⟨fun _ => none_of fun W hS => heredoc_no hS (by omega) hp, (fun _ _ _ h => nomatch h)⟩
  | true =>
    have hn : hereS (s.data.toList.drop at_) = (hereL (s.data.toList.drop (at_ + 2))).map fun r => (2 + r.1, r.2) := by
      unfold hereS
      rw [if_pos ((pre_two _).1 hp), List.drop_drop]
    rw [here_hw] at hn
    cases hW : isW (hwL (s.data.toList.drop (at_ + 2))).1 with
    | false =>
      rw [hW] at hn
      simp only [Bool.false_eq_true, if_false, Option.map_none] at hn
      rw [hn]
      exact ⟨fun _ => none_of fun W hS => here_none hS hs hat hp hW, (fun _ _ _ h => nomatch h)⟩
    | true =>
      rw [hW] at hn
      simp only [if_true, Option.map_some] at hn
      refine ⟨(fun h => by rw [hn] at h; cases h), fun n name more h => ?_⟩
      have hnl := v2 _ h
      rw [hn] at h
      simp only [Option.some.injEq, Prod.mk.injEq] at h
      obtain ⟨hn', hname, hmore⟩ := h
      have hn' : 2 + (2 * (hwL (s.data.toList.drop (at_ + 2))).2.length + (hwL (s.data.toList.drop (at_ + 2))).1.length) = n := hn'
      simp only at hnl
      have hane : at_ + n ≤ s.data.toList.length := by omega
      have hE := eol_shift (l := s.data.toList) n at_ hane hnl
      obtain ⟨c1, c2⟩ := cut_eq (name := name) hJ (hPa.mono (by omega : at_ ≤ at_ + n)) hane
      rw [← hE] at c1 c2
      by_cases hEl : at_ + (lineOf s.data.toList at_).length < s.data.toList.length
      · have hc := c1 hEl (s.data.toList.length + 1) (by omega)
        cases hX : linesA s.data.toList name (s.data.toList.length + 1) (nx M.J (at_ + (lineOf s.data.toList at_).length)) with
        | none =>
          rw [hX] at hc
          refine ⟨fun _ => fun W _ hS => here_bad2 hS hs hat hp hW hJ hMn _ rfl hEl (s.data.toList.length + 1) (by omega) (by rw [hname]; exact hX), (fun body R2 h => by rw [hc] at h; cases h)⟩
        | some r =>
          rw [hX] at hc
          simp only [Option.map_some] at hc
          refine ⟨(fun h => by rw [hc] at h; cases h), fun body R2 h => ?_⟩
          rw [hc] at h
          simp only [Option.some.injEq, Prod.mk.injEq] at h
          obtain ⟨rfl, rfl⟩ := h
          have hr := linesA_le hX
          have hnx := nx_gt hJ (at_ + (lineOf s.data.toList at_).length)
          obtain ⟨heol, hno⟩ := eol_some hEl
          have hn0 : 0 < n := by omega
          have hB : Behind s.data.toList M at_ (rest s.data.toList (jput M.J (at_ + (lineOf s.data.toList at_).length) r.2) (at_ + n)) ⟨M.blk, M.n + 1, jput M.J (at_ + (lineOf s.data.toList at_).length) r.2⟩ (at_ + n) :=
            ⟨rfl, by omega, hane, jput_ok hJ heol (by omega) hr.2.2, jput_past (hPa.mono (by omega)) (fun i h3 h4 => hno i (by omega) h4), Nat.le_refl _⟩
          by_cases hmk : (hwL (s.data.toList.drop (at_ + 2))).2 = [39]
          · have hm : more = false := by rw [← hmore, hmk]; rfl
            subst hm
            intro W hb hS
            refine (here_ok4 hS hs hat hp hW hJ hMn _ rfl hEl (s.data.toList.length + 1) (by omega) r (by rw [hname]; exact hX) n (by rw [← hn']) hane hmk).mono fun e w' ⟨k1, k2, k3⟩ => ⟨_, _, ?_, k2, k3, rfl, hB⟩
            rw [k1]; rfl
          · have hm : more = true := by rw [← hmore]; simpa using hmk
            subst hm
            intro W hb hS
            refine (here_ok5 hS hs hat hp hW hJ hMn _ rfl hEl (s.data.toList.length + 1) (by omega) r (by rw [hname]; exact hX) n (by rw [← hn']) hane hmk).mono fun e w' ⟨k1, k2, k3⟩ => ⟨_, _, ?_, k2, k3, rfl, hB⟩
            rw [k1]; rfl
      · have hc := c2 hEl
        refine ⟨fun _ => fun W _ hS => here_bad1 hS hs hat hp hW hEl, (fun body R2 h => by rw [hc] at h; cases h)⟩
end Go.Proofs.YthmopindibdhnaaDoor.G
namespace Go.Proofs.YthmopindibdhnaaDoor.G
open Go.RowKit Go.Shelf Go.Maps
variable {w w' : World} {P : Nat} {M : GoMap} {s : ByteArray} {at_ en : Nat} {tm : Bool} {tv bv ov : Value}
theorem Behind.of (hJ : JOk s.data.toList M.J) (hPa : JPast s.data.toList M.J at_) {R2 : Src} {b : Nat} (h : R2 = rest s.data.toList M.J b) (h1 : at_ < b) (h2 : b ≤ s.data.toList.length) : Behind s.data.toList M at_ R2 M b :=
  ⟨h, h1, h2, hJ, hPa.mono (by omega), by omega⟩
theorem quote_all (hs : s.size ≤ 4000) (hJ : JOk s.data.toList M.J) (hPa : JPast s.data.toList M.J at_) (hat : at_ < s.size) (hFA : ∀ W, Bt P M.blk w W → FieldsAt W) :
    (quoteL (s.data.toList.drop at_) = none → FindsN w 39 P M s at_ en tm tv bv ov) ∧
    (∀ k n, quoteL (s.data.toList.drop at_) = some (k, n) → (quoteS at_ k (rest s.data.toList M.J (at_ + n)) = none → FailsG w 39 P M s at_ en tm tv bv ov) ∧
      (∀ t R2, quoteS at_ k (rest s.data.toList M.J (at_ + n)) = some (t, R2) → FindsG w 39 P M s at_ en tm tv bv ov (rend0 t) (Behind s.data.toList M at_ R2))) := by
  have hL : at_ < s.data.toList.length := by rw [sizeL]; exact hat
  obtain ⟨h1, h2⟩ := line3 hJ at_ (by omega)
  obtain ⟨v1, v2⟩ := quote_line h1
  have hll := line_le s.data.toList at_ (by omega)
  refine ⟨fun hn => none_of fun W hS => quote_no hS (by omega) (by omega) hn, fun k n hk => ?_⟩
  obtain ⟨⟨o, ho, hd⟩, hkk⟩ := quoteL_some hk
  rw [List.getElem?_drop] at ho
  have hnm := v2 k n hk
  have hoL : at_ + n < s.data.toList.length := (List.getElem?_eq_some_iff.1 ho).1
  have hoe : s.data.toList[at_ + n] = o := (List.getElem?_eq_some_iff.1 ho).2
  have h10 : o ≠ 10 := by rintro rfl; exact absurd hd (by decide)
  have hr : rest s.data.toList M.J (at_ + n) = (at_ + n, o) :: rest s.data.toList M.J (at_ + n + 1) := by
    rw [rest_cons hJ hoL, hoe, nx_plain hJ ho h10]
  have hfr : at_ < s.size := hat
  -- how the token method's contracts are handed on
  have bad : (∀ (W : World) (Q : Nat), Sc W P M s (at_ + n) en tm tv bv ov → Quo W Q P at_ o → Q ≠ P → Q ≠ M.blk → (∀ W', Bt P Q W W' → FieldsAt W') → Calls Tryd.prog 51 #[.pointer (some ⟨Q, 0, none⟩), .int .i64 k] W fun e w' => Bad s e ∧ Bt P Q W w') →
      FailsG w 39 P M s at_ en tm tv bv ov := fun H W hb hS =>
    (quote_bad hS (by omega) hs k n hk ho fun W2 Q h1 h2 h3 h4 h5 h6 => H W2 Q h1 h2 h3 h4 fun W' h7 => hFA W' (hb.trans (Bt.of_but (Bt.but h6 h5 h7)))).mono fun e w' ⟨k1, k2⟩ => ⟨k1, Bt.of_but k2⟩
  have good : ∀ (t : RTok) (R2 : Src), (∀ (W : World) (Q : Nat), Sc W P M s (at_ + n) en tm tv bv ov → Quo W Q P at_ o → Q ≠ P → Q ≠ M.blk → (∀ W', Bt P Q W W' → FieldsAt W') → Calls Tryd.prog 51 #[.pointer (some ⟨Q, 0, none⟩), .int .i64 k] W fun e w' => ∃ b, e = .returned (rend0 t).val ∧ Sc w' P M s b en tm tv bv ov ∧ Bt P Q W w' ∧ R2 = rest s.data.toList M.J b ∧ at_ + n < b ∧ b ≤ s.data.toList.length) →
      FindsG w 39 P M s at_ en tm tv bv ov (rend0 t) (Behind s.data.toList M at_ R2) := fun t R2 H W hb hS =>
    (quote_ok hS (by omega) hs k n hk ho (rend0 t) R2 fun W2 Q h1 h2 h3 h4 h5 h6 => H W2 Q h1 h2 h3 h4 fun W' h7 => hFA W' (hb.trans (Bt.of_but (Bt.but h6 h5 h7)))).mono fun e w' ⟨b, k1, k2, k3, k4, k5, k6⟩ => ⟨M, b, k1, k2, Bt.of_but k3, rfl, Behind.of hJ hPa k4 k5 k6⟩
  rw [hr]
  cases hp : partS o (partU o) 0 (rest s.data.toList M.J (at_ + n + 1)) with
  | none =>
    have hq : quoteS at_ k ((at_ + n, o) :: rest s.data.toList M.J (at_ + n + 1)) = none := by
      unfold quoteS
      simp only [hp]
    rw [hq]
    exact ⟨fun _ => bad fun W Q h1 h2 h3 h4 h5 => qtok_no h1 h2 h3 h4 hs hJ (by omega) hfr hd k hp, (fun _ _ h => nomatch h)⟩
  | some r =>
    obtain ⟨raw, R1⟩ := r
    rcases hkk with rfl | rfl | rfl | rfl | rfl | rfl
    · have hq : quoteS at_ 4 ((at_ + n, o) :: rest s.data.toList M.J (at_ + n + 1)) = some (⟨4, at_, 1, raw, [], [], o, 0, 0⟩, R1) := by
        unfold quoteS
        simp only [hp]; rfl
      rw [hq]
      refine ⟨(fun h => nomatch h), fun t R2 h => ?_⟩
      cases h
      exact good _ _ fun W Q h1 h2 h3 h4 h5 => qtok_4 h1 h2 h3 h4 hs hJ (by omega) hfr hd hp
    · have hq : quoteS at_ 5 ((at_ + n, o) :: rest s.data.toList M.J (at_ + n + 1)) = some (⟨5, at_, 2, raw, [], [], o, 0, 0⟩, R1) := by
        unfold quoteS
        simp only [hp]; rfl
      rw [hq]
      refine ⟨(fun h => nomatch h), fun t R2 h => ?_⟩
      cases h
      exact good _ _ fun W Q h1 h2 h3 h4 h5 => qtok_5 h1 h2 h3 h4 hs hJ (by omega) hfr hd hp
    · have hq : quoteS at_ 6 ((at_ + n, o) :: rest s.data.toList M.J (at_ + n + 1)) = some (⟨6, at_, 3, raw, [], [], o, 0, 0⟩, R1) := by
        unfold quoteS
        simp only [hp]; rfl
      rw [hq]
      refine ⟨(fun h => nomatch h), fun t R2 h => ?_⟩
      cases h
      exact good _ _ fun W Q h1 h2 h3 h4 h5 => qtok_6 h1 h2 h3 h4 hs hJ (by omega) hfr hd hp h5
    · have hq : quoteS at_ 7 ((at_ + n, o) :: rest s.data.toList M.J (at_ + n + 1)) = some (⟨7, at_, 4, raw, [], (byt R1).take (flagS R1 flagsP), o, 0, 0⟩, R1.drop (flagS R1 flagsP)) := by
        unfold quoteS
        simp only [hp]; rfl
      rw [hq]
      refine ⟨(fun h => nomatch h), fun t R2 h => ?_⟩
      cases h
      exact good _ _ fun W Q h1 h2 h3 h4 h5 => qtok_7 h1 h2 h3 h4 hs hJ (by omega) hfr hd hp
    · cases hs2 : secondS o R1 with
      | none =>
        have hq : quoteS at_ 8 ((at_ + n, o) :: rest s.data.toList M.J (at_ + n + 1)) = none := by
          unfold quoteS
          simp only [hp, hs2]; rfl
        rw [hq]
        exact ⟨fun _ => bad fun W Q h1 h2 h3 h4 h5 => qtok_8no h1 h2 h3 h4 hs hJ (by omega) hfr hd hp hs2, (fun _ _ h => nomatch h)⟩
      | some r =>
        obtain ⟨o2, raw2, R3⟩ := r
        have hq : quoteS at_ 8 ((at_ + n, o) :: rest s.data.toList M.J (at_ + n + 1)) = some (⟨8, at_, 5, raw, raw2, (byt R3).take (flagS R3 flagsP), o, o2, 0⟩, R3.drop (flagS R3 flagsP)) := by
          unfold quoteS
          simp only [hp, hs2]; rfl
        rw [hq]
        refine ⟨(fun h => nomatch h), fun t R2 h => ?_⟩
        cases h
        exact good _ _ fun W Q h1 h2 h3 h4 h5 => qtok_8 h1 h2 h3 h4 hs hJ (by omega) hfr hd hp hs2
    · cases hs2 : secondS o R1 with
      | none =>
        have hq : quoteS at_ 9 ((at_ + n, o) :: rest s.data.toList M.J (at_ + n + 1)) = none := by
          unfold quoteS
          simp only [hp, hs2]; rfl
        rw [hq]
        exact ⟨fun _ => bad fun W Q h1 h2 h3 h4 h5 => qtok_9no h1 h2 h3 h4 hs hJ (by omega) hfr hd hp hs2, (fun _ _ h => nomatch h)⟩
      | some r =>
        obtain ⟨o2, raw2, R3⟩ := r
        have hq : quoteS at_ 9 ((at_ + n, o) :: rest s.data.toList M.J (at_ + n + 1)) = some (⟨9, at_, 6, raw, raw2, (byt R3).take (flagS R3 flagsT), o, o2, 0⟩, R3.drop (flagS R3 flagsT)) := by
          unfold quoteS
          simp only [hp, hs2]; rfl
        rw [hq]
        refine ⟨(fun h => nomatch h), fun t R2 h => ?_⟩
        cases h
        exact good _ _ fun W Q h1 h2 h3 h4 h5 => qtok_9 h1 h2 h3 h4 hs hJ (by omega) hfr hd hp hs2
/-- a token of the program is the plain scanner's -/
theorem token_g (h : Sc w P M s at_ en tm tv bv ov) (hs : s.size ≤ 4000) (hJ : JOk s.data.toList M.J) (hPa : JPast s.data.toList M.J at_) (hat : at_ < s.size) (hMn : M.n ≤ 4000) (hFA : ∀ W, Bt P M.blk w W → FieldsAt W) :
    Calls Tryd.prog 34 #[.pointer (some ⟨P, 0, none⟩)] w (TokP s P M en tm tv bv ov at_ w (nextS false (rest s.data.toList M.J at_) tm)) := by
  have hL : at_ < s.data.toList.length := by rw [sizeL]; exact hat
  cases tm with
  | false => exact plain_f h hs hJ hPa hat
  | true =>
    obtain ⟨h1, h2⟩ := line3 hJ at_ (by omega)
    obtain ⟨e1, e2⟩ := quote_line h1
    obtain ⟨e3, e4⟩ := here_line h1
    obtain ⟨e5, e6⟩ := varS_line h1 false
    have hpl : place (rest s.data.toList M.J at_) = at_ := rest_place hJ hL
    obtain ⟨qa, qb⟩ := quote_all (en := en) (tm := true) (tv := tv) (bv := bv) (ov := ov) hs hJ hPa hat hFA
    obtain ⟨ha, hb⟩ := here_all (w := w) (P := P) (en := en) (tm := true) (tv := tv) (bv := bv) (ov := ov) hs hJ hPa hat hMn
    obtain ⟨va, vb, vc⟩ := var_all (w := w) (P := P) (en := en) (tm := true) (tv := tv) (bv := bv) (ov := ov) hs hJ hPa hat
    unfold nextS
    rw [if_pos rfl, ← e1, ← e3, ← e5, hpl]
    cases hq : quoteL (s.data.toList.drop at_) with
    | some r =>
      obtain ⟨k, n⟩ := r
      simp only
      have hnm := e2 k n hq
      rw [h2 n (by omega)]
      obtain ⟨q1, q2⟩ := qb k n hq
      cases hqs : quoteS at_ k (rest s.data.toList M.J (at_ + n)) with
      | none => exact tokp_no rfl (tk_quote_bad h (q1 hqs))
      | some r => exact tokp_of rfl rfl (tk_quote h (q2 r.1 r.2 hqs))
    | none =>
      simp only
      cases hh : hereS (s.data.toList.drop at_) with
      | some r =>
        obtain ⟨n, name, more⟩ := r
        simp only
        have hnm := e4 _ hh
        rw [h2 n hnm]
        obtain ⟨q1, q2⟩ := hb n name more hh
        cases hc : cutS name (rest s.data.toList M.J (at_ + n)) with
        | none => exact tokp_no rfl (tk_here_bad h (qa hq) (q1 hc))
        | some r => exact tokp_of rfl rfl (tk_here h (qa hq) (q2 r.1 r.2 hc))
      | none =>
        simp only
        cases hv : varS false (s.data.toList.drop at_) with
        | none => exact tokp_no rfl (tk_var_bad h (qa hq) (ha hh) (va hv))
        | some n =>
          cases n with
          | zero => exact plain_t h (qa hq) (ha hh) (vb hv) hs hJ hPa hat
          | succ n => exact tokp_of rfl rfl (tk_var h (qa hq) (ha hh) (vc n hv))
end Go.Proofs.YthmopindibdhnaaDoor.G
namespace Go.Proofs.YthmopindibdhnaaDoor.G
open Go.RowKit Go.Shelf Go.Maps
theorem cellsT_at : ∀ (l : List Tok) (i j : Nat), j < 6 → (cellsT l)[i * 6 + j]? = (l[i]?).bind fun t => t.cells[j]?
  | [], i, j, _ => by simp [cellsT]
  | t :: l, 0, j, hj => by
    have : cellsT (t :: l) = t.cells ++ cellsT l := rfl
    rw [this, Nat.zero_mul, Nat.zero_add, List.getElem?_append_left (by simpa [Tok.cells] using hj)]
    rfl
  | t :: l, i + 1, j, hj => by
    have : cellsT (t :: l) = t.cells ++ cellsT l := rfl
    rw [this, List.getElem?_append_right (by simp [Tok.cells]; omega), show (i + 1) * 6 + j - t.cells.length = i * 6 + j by simp [Tok.cells]; omega, cellsT_at l i j hj]
    rfl
variable {w w' : World} {P : Nat} {M : GoMap} {s : ByteArray} {at_ en : Nat} {tm : Bool} {tv bv ov : Value} {toks : List Tok}
theorem tok_at {base : Nat} (h : OwnT w base tv toks) {i : Nat} (hi : i < toks.length) : ∃ g cap, tv = .slice (some ⟨g, 0, none⟩) toks.length cap ∧ base ≤ g ∧ g < w.heap.size ∧
    w.cell? ⟨g, i * 6, none⟩ = some (.int .i64 toks[i].kind) ∧ w.cell? ⟨g, i * 6 + 1, none⟩ = some (.int .i64 toks[i].place) ∧ w.cell? ⟨g, i * 6 + 2, none⟩ = some (.string toks[i].text) ∧ w.cell? ⟨g, i * 6 + 3, none⟩ = some (.string toks[i].repl) ∧ w.cell? ⟨g, i * 6 + 4, none⟩ = some (.string toks[i].more) ∧ w.cell? ⟨g, i * 6 + 5, none⟩ = some (.int .i64 toks[i].opn) := by
  obtain ⟨g, cap, h1, h2, h3, _, h5⟩ := own_cell h (by omega)
  have hc : ∀ j u, j < 6 → toks[i].cells[j]? = some u → w.cell? ⟨g, i * 6 + j, none⟩ = some u := fun j u hj hu => h5 _ _ (by rw [cellsT_at toks i j hj, List.getElem?_eq_getElem hi]; exact hu)
  exact ⟨g, cap, h1, h2, h3, hc 0 _ (by omega) rfl, hc 1 _ (by omega) rfl, hc 2 _ (by omega) rfl, hc 3 _ (by omega) rfl, hc 4 _ (by omega) rfl, hc 5 _ (by omega) rfl⟩
theorem But_gr {w w' : World} (h : But w.heap.size w w') : Gr w w' := ⟨h.os, h.tape, h.output, h.size, fun k hk => h.block k hk (fun e => by injection e with e; omega)⟩
/-- the last token but n - 1 -/
def lastT (toks : List Tok) (n : Nat) : Tok := if h : n ≤ toks.length ∧ 0 < n then toks[toks.length - n]'(by omega) else tok 3 ⟨#[59]⟩
set_option maxRecDepth 100000 in
set_option maxHeartbeats 1000000 in
theorem last_g {base : Nat} (h : Sc w P M s at_ en tm tv bv ov) (hO : OwnT w base tv toks) (hl : toks.length ≤ 100000) (n : Nat) (hn : 0 < n) (hn3 : n ≤ 3) :
    Calls Tryd.prog 77 #[.pointer (some ⟨P, 0, none⟩), .int .i64 n] w fun e w' => e = .returned (lastT toks n).val ∧ Gr w w' := by
  have H := Lib.hid h
  have HO := Lib.hid hO
  have hP : P < w.heap.size := h.lt.1
  by_cases hle : n ≤ toks.length
  · obtain ⟨g, cap, rfl, hg, hgs, x0, x1, x2, x3, x4, x5⟩ := tok_at hO (i := toks.length - n) (by omega)
    have hlt : lastT toks n = toks[toks.length - n] := by unfold lastT; rw [dif_pos ⟨hle, hn⟩]
    rw [hlt]
    obtain ⟨i, hi⟩ : ∃ i, i = toks.length - n := ⟨_, rfl⟩
    have hin : (toks.length : Int) - (n : Int) = (i : Int) := by omega
    have hi1 : (i : Int) < (toks.length : Int) := by omega
    have hgt : decide ((n : Int) > (toks.length : Int)) = false := by simp; omega
    have hgt2 : ¬ toks.length < n := by omega
    have hgt3 : decide (toks.length < n) = false := by simp; omega
    obtain ⟨t, ht⟩ : ∃ t, t = toks[toks.length - n] := ⟨_, rfl⟩
    rw [← ht] at x0 x1 x2 x3 x4 x5 ⊢
    rw [← hi] at x0 x1 x2 x3 x4 x5
    have hwi : IntKind.i64.wrap (i : Int) = (i : Int) := by rw [IntKind.wrap_i64]; omega
    have G1 := (Gr.refl w).alloc (.cells #[.int .i64 0, .int .i64 0, .string ⟨#[]⟩, .string ⟨#[]⟩, .string ⟨#[]⟩, .int .i64 0] 32)
    rw [← cell_gr G1 hgs] at x0 x1 x2 x3 x4 x5
    obtain ⟨c0, c1, c2, c3, c4, c5, c6, c7, cf⟩ := (h.gr G1).cells
    clear h hO hlt hle hi ht hgt2
    go_enter Tryd.func77, Tryd.ntmps77
    go_wp2_with fail
    go_big_region
    go_wp2_with fail
    refine bodyPost_ret (results_tok (t := t) rfl rfl (heap_alloc_new w _)) rfl ?_
    exact ⟨rfl, ((Gr.refl w).alloc _).drew⟩
  · obtain ⟨ao, cap, rfl⟩ := ownsRow_shape hO
    have hlt : lastT toks n = tok 3 ⟨#[59]⟩ := by unfold lastT; rw [dif_neg (fun h => hle h.1)]
    rw [hlt]
    have hgt : (n : Int) > (toks.length : Int) := by omega
    have hgt2 : toks.length < n := by omega
    have K1 : (w.alloc (.cells #[.int .i64 0, .int .i64 0, .string ⟨#[]⟩, .string ⟨#[]⟩, .string ⟨#[]⟩, .int .i64 0] 32)).heap[w.heap.size]? = some (.cells #[.int .i64 0, .int .i64 0, .string ⟨#[]⟩, .string ⟨#[]⟩, .string ⟨#[]⟩, .int .i64 0] 32 (0, 0)) := heap_alloc_new w _
    have G1 := (Gr.refl w).alloc (.cells #[.int .i64 0, .int .i64 0, .string ⟨#[]⟩, .string ⟨#[]⟩, .string ⟨#[]⟩, .int .i64 0] 32)
    obtain ⟨c0, c1, c2, c3, c4, c5, c6, c7, cf⟩ := (h.gr G1).cells
    have K1' := Lib.hid K1
    clear h hO hlt hle K1
    go_enter Tryd.func77, Tryd.ntmps77
    go_wp2_with (refine wpList_store_tok rfl (.tmp 4) (.tmp 12) rfl (t := tok 3 ⟨#[59]⟩) rfl rfl K1'.out rfl ?_)
    intro W9 hb9 hk9
    have B9 := Lib.hid hb9
    have K9 := Lib.hid hk9
    clear hb9 hk9
    go_wp2_with fail
    refine bodyPost_ret (results_tok rfl rfl K9.out) rfl ?_
    exact ⟨rfl, But_gr ((But.of_gr G1).late (Nat.le_refl _) B9.out)⟩
end Go.Proofs.YthmopindibdhnaaDoor.G
