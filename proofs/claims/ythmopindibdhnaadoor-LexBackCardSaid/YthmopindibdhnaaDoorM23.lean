/- BkC BkD2 -/
import Derived.Test.YthmopindibdhnaaDoorM22
namespace Go.Proofs.YthmopindibdhnaaDoor.G.Bk
open Go.RowKit Go.Shelf
theorem all_u8 {P : UInt8 → Prop} (h : ∀ n : Fin 256, P (UInt8.ofNat n.val)) (c : UInt8) : P c := by
  have := h ⟨c.toNat, c.toNat_lt⟩
  simpa using this
theorem alpha_facts : ∀ c : UInt8, alphaB c.toNat = true → sigilB c.toNat = false ∧ c ≠ 60 ∧ blkB c.toNat = false ∧ c ≠ 35 := by
  refine all_u8 ?_
  decide +kernel
theorem dig_facts : ∀ c : UInt8, digB c.toNat = true → alphaB c.toNat = false ∧ delimB c.toNat = false ∧ sigilB c.toNat = false ∧ c ≠ 60 ∧ blkB c.toNat = false ∧ c ≠ 35 := by
  refine all_u8 ?_
  decide +kernel
theorem sigil_facts : ∀ c : UInt8, sigilB c.toNat = true → alphaB c.toNat = false ∧ digB c.toNat = false ∧ c ≠ 60 ∧ delimB c.toNat = false ∧ blkB c.toNat = false ∧ c ≠ 35 := by
  refine all_u8 ?_
  decide +kernel
theorem spec_facts : ∀ c : UInt8, specB c.toNat = true → alphaB c.toNat = false := by
  refine all_u8 ?_
  decide +kernel
theorem wordN_on {c : UInt8} {u : List UInt8} (h : alphaB c.toNat = true) : wordN (c :: u) = wordR (c :: u) (c :: u).length 1 := wordN_yes (l := c :: u) (Nat.zero_lt_succ _) h
theorem wordN_head {c : UInt8} {u : List UInt8} (h : alphaB c.toNat = false) : wordN (c :: u) = 0 := wordN_no (by simp) h
/-- which quote begins is told by the first byte, if it begins no word -/
theorem quoteL_head {c : UInt8} {u : List UInt8} (h : alphaB c.toNat = false) : quoteL (c :: u) = if delimB c.toNat = true then (kindL [c]).map fun k => (k, 0) else none := by
  unfold quoteL wordOr
  rw [wordN_head h]
  simp
theorem hereS_head {c : UInt8} {u : List UInt8} (h : c ≠ 60) : hereS (c :: u) = none := by
  unfold hereS
  rw [if_neg (by simp [h])]
theorem varS_head {r : Bool} {c : UInt8} {u : List UInt8} (h : sigilB c.toNat = false) : varS r (c :: u) = some 0 := by
  unfold varS
  cases u with
  | nil => rfl
  | cons d t => simp only; rw [if_neg (by rw [h]; decide)]
/-- signs, with those of terms alone -/
def signs2 : List (List UInt8) := [36] :: [64] :: signsL
def sgnOk (S : List UInt8) : Bool := match S with
  | [] => false
  | c :: u => !alphaB c.toNat && !digB c.toNat && !blkB c.toNat && c != 35 && c != 39 && c != 34 && (c == 47 || !delimB c.toNat || (kindL [c]).isNone) &&
    (match u with | [] => true | d :: _ => d != 60 && !alphaB d.toNat && c != 36)
theorem signs2_facts : ∀ S ∈ signs2, sgnOk S = true := by decide +kernel
theorem stp_facts {d : UInt8} (h : d = 32 ∨ d = 123 ∨ d = 36) : d ≠ 60 ∧ alphaB d.toNat = false ∧ specB d.toNat = false := by
  rcases h with rfl | rfl | rfl <;> decide
theorem sgn_pre {S K : List UInt8} (hS : S ∈ signs2) (hK : Stp K) (h47 : S[0]? ≠ some 47) : quoteL (S ++ K) = none ∧ hereS (S ++ K) = none ∧ varS false (S ++ K) = some 0 := by
  have hf := signs2_facts S hS
  rcases S with _ | ⟨c, u⟩
  · simp [sgnOk] at hf
  · have h47' : (c == 47) = false := by simpa using h47
    simp only [sgnOk, h47', Bool.and_eq_true, Bool.not_eq_true', Bool.false_or, Bool.or_eq_true, bne_iff_ne, ne_eq] at hf
    obtain ⟨⟨⟨⟨⟨⟨⟨f1, f2⟩, f3⟩, f4⟩, f5⟩, f6⟩, f7⟩, f8⟩ := hf
    have hq : quoteL (c :: u ++ K) = none := by
      show quoteL (c :: (u ++ K)) = none
      rw [quoteL_head f1]
      rcases f7 with f7 | f7
      · rw [if_neg (by rw [f7]; decide)]
      · rw [Option.isNone_iff_eq_none.1 f7]; simp
    -- the second byte
    have h2 : ∀ d t, u ++ K = d :: t → d ≠ 60 ∧ alphaB d.toNat = false ∧ (c = 36 → specB d.toNat = false) := fun d t e => by
      rcases u with _ | ⟨d', u'⟩
      · have := stp_facts (hK d (by rw [List.nil_append] at e; rw [e]; rfl))
        exact ⟨this.1, this.2.1, fun _ => this.2.2⟩
      · simp only [List.cons_append, List.cons.injEq] at e
        simp only [Bool.and_eq_true, bne_iff_ne, ne_eq, Bool.not_eq_true'] at f8
        rw [← e.1]
        exact ⟨f8.1.1, f8.1.2, fun h => absurd h f8.2⟩
    refine ⟨hq, ?_, ?_⟩
    · unfold hereS
      rw [if_neg]
      rintro ⟨_, h⟩
      rw [List.cons_append, List.getElem?_cons_succ] at h
      cases e : u ++ K with
      | nil => rw [e] at h; simp at h
      | cons d t => rw [e] at h; simp only [List.getElem?_cons_zero, Option.some.injEq] at h; exact (h2 d t e).1 h
    · rw [List.cons_append]
      cases e : u ++ K with
      | nil => rfl
      | cons d t =>
        obtain ⟨_, g2, g3⟩ := h2 d t e
        unfold varS
        simp only
        split
        · rw [wordN_head g2, if_neg (by omega), if_neg (by omega), if_neg (fun hh => by rw [g3 hh.1] at hh; exact absurd hh.2 (by decide))]
        · rfl
/-- how a token is written -/
def wrR (t : RTok) : List UInt8 :=
  if t.kind = 4 then [39] ++ escG [39, 92] (textV t) ++ [39]
  else if t.kind = 5 then [34] ++ textV t ++ [34]
  else if t.kind = 6 then [113, 119, 40] ++ escG [40, 41, 92] (textV t) ++ [41]
  else if t.kind = 7 then [109, 47] ++ escG [47] (textV t) ++ [47] ++ t.more
  else if t.kind = 8 then [115, 47] ++ escG [47] (textV t) ++ [47] ++ escG [47] (replV t) ++ [47] ++ t.more
  else if t.kind = 9 then [116, 114, 47] ++ escG [47, 92] (textV t) ++ [47] ++ escG [47, 92] (replV t) ++ [47] ++ t.more
  else textV t
/-- two tokens are the same but for their places -/
structure Sm (t u : RTok) : Prop where
  kind : t.kind = u.kind
  text : textV t = textV u
  repl : replV t = replV u
  more : t.more = u.more
  opn : t.opn = u.opn
  raw : t.kind ≤ 3 → t.raw = u.raw
abbrev All : UInt8 → Prop := fun _ => True
/-- the ways in which a token is read -/
inductive Nx (R : Src) (term : Bool) : RTok → Src → Prop
  | word (n : Nat) : n = wordN (byt R) → 1 ≤ n → n ≤ 12 → Nx R term (asIs 0 n R).1 (R.drop n)
  | num (x : Nat × UInt8) (u : Src) : R = x :: u → digB x.2.toNat = true → Nx R term (asIs 1 (digN (byt R)) R).1 (R.drop (digN (byt R)))
  | sign (n : Nat) : (byt R).take n ∈ signs2 → 1 ≤ n → n ≤ R.length → ((byt R).take n ∈ signsL ∨ (term = true ∧ ((byt R)[1]? = some 36 ∨ (byt R)[1]? = some 123) ∧ n = 1)) → (term = true → ((byt R).take n)[0]? ≠ some 47) → Nx R term (asIs 3 n R).1 (R.drop n)
  | var (n : Nat) : term = true → varS false (byt R) = some (n + 1) → Nx R term (asIs 2 (n + 1) R).1 (R.drop (n + 1))
  | str (pl f : Nat) (raw : List UInt8) (o : UInt8) (R2 : Src) : term = true → f = 0 ∨ f = 1 → raw.length + R2.length + 2 ≤ R.length → (∀ c ∈ raw, c ∈ byt R) → (∀ c ∈ byt R2, c ∈ byt R) → Nx R term ⟨4, pl, f, raw, [], [], o, 0, 0⟩ R2
  | inter (pl f : Nat) (raw : List UInt8) (o : UInt8) (R2 : Src) : term = true → f = 2 ∨ f = 7 → (f = 2 → delimB o.toNat = true) → Pc All All raw → raw.length + R2.length + 2 ≤ R.length → (∀ c ∈ raw, c ∈ byt R) → (∀ c ∈ byt R2, c ∈ byt R) → Nx R term ⟨5, pl, f, raw, [], [], o, 0, 0⟩ R2
  | words (pl : Nat) (raw : List UInt8) (o : UInt8) (R2 : Src) : term = true → raw.length + R2.length + 4 ≤ R.length → (∀ c ∈ raw, c ∈ byt R) → (∀ c ∈ byt R2, c ∈ byt R) → Nx R term ⟨6, pl, 3, raw, [], [], o, 0, 0⟩ R2
  | pat (pl : Nat) (raw : List UInt8) (o : UInt8) (R1 : Src) : term = true → Pc All All raw → raw.length + R1.length + 2 ≤ R.length → (∀ c ∈ raw, c ∈ byt R) → (∀ c ∈ byt R1, c ∈ byt R) → Nx R term ⟨7, pl, 4, raw, [], (byt R1).take (flagS R1 flagsP), o, 0, 0⟩ (R1.drop (flagS R1 flagsP))
  | subst (pl : Nat) (raw raw2 : List UInt8) (o o2 : UInt8) (R1 : Src) : term = true → delimB o2.toNat = true → Pc All All raw → Pc All All raw2 → raw.length + raw2.length + R1.length + 4 ≤ R.length → (∀ c ∈ raw, c ∈ byt R) → (∀ c ∈ raw2, c ∈ byt R) → (∀ c ∈ byt R1, c ∈ byt R) → Nx R term ⟨8, pl, 5, raw, raw2, (byt R1).take (flagS R1 flagsP), o, o2, 0⟩ (R1.drop (flagS R1 flagsP))
  | trans (pl : Nat) (raw raw2 : List UInt8) (o o2 : UInt8) (R1 : Src) : term = true → raw.length + raw2.length + R1.length + 4 ≤ R.length → (∀ c ∈ raw, c ∈ byt R) → (∀ c ∈ raw2, c ∈ byt R) → (∀ c ∈ byt R1, c ∈ byt R) → Nx R term ⟨9, pl, 6, raw, raw2, (byt R1).take (flagS R1 flagsT), o, o2, 0⟩ (R1.drop (flagS R1 flagsT))
theorem signN_is {B : List UInt8} (h : 0 < signN B) : B.take (signN B) ∈ signsL ∧ signN B ≤ B.length := by
  unfold signN at h ⊢
  exact ⟨sign_mem (signGo_is B _ h), Nat.le_trans (signGo_le B _) (Nat.min_le_right _ _)⟩
theorem plain_nx {R : Src} {term : Bool} {t : RTok} {R2 : Src} (hq : term = true → quoteL (byt R) = none) (h : plainS R term = some (t, R2)) : Nx R term t R2 := by
  unfold plainS at h
  cases R with
  | nil => exact nomatch h
  | cons x u =>
    simp only at h
    by_cases ha : alphaB x.2.toNat = true
    · rw [if_pos ha] at h
      by_cases hw : wordN (byt (x :: u)) ≤ 12
      · rw [if_pos hw] at h
        simp only [Option.some.injEq, Prod.ext_iff] at h
        obtain ⟨rfl, rfl⟩ := h
        have h1 : 1 ≤ wordN (byt (x :: u)) := by
          rw [byt_cons, wordN_on ha]
          exact (wordR_le _ 1 (by simp)).2
        exact .word _ rfl h1 hw
      · rw [if_neg hw] at h; exact nomatch h
    · rw [if_neg ha] at h
      have ha' : alphaB x.2.toNat = false := by simpa using ha
      by_cases hd : digB x.2.toNat = true
      · rw [if_pos hd] at h
        simp only [Option.some.injEq, Prod.ext_iff] at h
        obtain ⟨rfl, rfl⟩ := h
        exact .num x u rfl hd
      · rw [if_neg hd] at h
        by_cases hs : 0 < signS (byt (x :: u)) term
        · rw [if_pos hs] at h
          simp only [Option.some.injEq, Prod.ext_iff] at h
          obtain ⟨rfl, rfl⟩ := h
          have h47 : ∀ n, 1 ≤ n → term = true → ((byt (x :: u)).take n)[0]? ≠ some 47 := fun n hn ht e => by
            have := hq ht
            rw [byt_cons, quoteL_head ha'] at this
            rw [List.getElem?_take_of_lt (by omega)] at e
            simp only [byt_cons, List.getElem?_cons_zero, Option.some.injEq] at e
            rw [e] at this
            exact absurd this (by decide)
          unfold signS at hs ⊢
          by_cases h1 : 0 < signN (byt (x :: u))
          · rw [if_pos h1]
            obtain ⟨m1, m2⟩ := signN_is h1
            exact .sign _ (List.mem_cons_of_mem _ (List.mem_cons_of_mem _ m1)) h1 (by rw [byt_len] at m2; exact m2) (.inl m1) (h47 _ h1)
          · rw [if_neg h1] at hs ⊢
            by_cases h2 : term = true ∧ ((byt (x :: u))[0]? = some 36 ∨ (byt (x :: u))[0]? = some 64) ∧ ((byt (x :: u))[1]? = some 36 ∨ (byt (x :: u))[1]? = some 123)
            · rw [if_pos h2]
              refine .sign 1 ?_ (Nat.le_refl 1) (by simp) (.inr ⟨h2.1, h2.2.2, rfl⟩) (h47 1 (Nat.le_refl 1))
              have h3 := h2.2.1
              simp only [byt_cons, List.getElem?_cons_zero, Option.some.injEq] at h3
              rw [byt_cons, List.take_succ_cons, List.take_zero]
              rcases h3 with h3 | h3 <;> rw [h3] <;> simp [signs2]
            · rw [if_neg h2] at hs; exact absurd hs (by omega)
        · rw [if_neg hs] at h; exact nomatch h
theorem second_is {o o2 : UInt8} {R1 R2 : Src} {raw2 : List UInt8} (hdo : delimB o.toNat = true) (h : secondS o R1 = some (o2, raw2, R2)) :
    delimB o2.toNat = true ∧ Pc All All raw2 ∧ raw2.length + R2.length + 1 ≤ R1.length ∧ (∀ c ∈ raw2, c ∈ byt R1) ∧ (∀ c ∈ byt R2, c ∈ byt R1) := by
  unfold secondS at h
  by_cases hp : partU o = o
  · rw [if_pos hp] at h
    cases e : partS o o 0 R1 with
    | none => rw [e] at h; exact nomatch h
    | some r =>
      rw [e] at h
      simp only [Option.map_some, Option.some.injEq, Prod.mk.injEq] at h
      obtain ⟨rfl, rfl, rfl⟩ := h
      obtain ⟨i1, i2, i3, i4⟩ := part_is 0 R1 r.1 r.2 e
      exact ⟨hdo, i1, by omega, i3, i4⟩
  · rw [if_neg hp] at h
    have hb : ∀ S : Src, (blkS S).length ≤ S.length ∧ ∀ c ∈ byt (blkS S), c ∈ byt S := fun S => by
      induction S with
      | nil => exact ⟨Nat.le_refl _, fun c hc => hc⟩
      | cons x t ih =>
        rw [blkS]
        split
        · exact ⟨Nat.le_succ_of_le ih.1, fun c hc => by rw [byt_cons]; exact List.mem_cons_of_mem _ (ih.2 c hc)⟩
        · exact ⟨Nat.le_refl _, fun c hc => hc⟩
    obtain ⟨b1, b2⟩ := hb R1
    unfold secondT at h
    cases e0 : blkS R1 with
    | nil => rw [e0] at h; exact nomatch h
    | cons x t =>
      rw [e0] at h b1 b2
      simp only at h
      by_cases hd : delimB x.2.toNat = true
      · rw [if_pos hd] at h
        cases e : partS x.2 (partU x.2) 0 t with
        | none => rw [e] at h; exact nomatch h
        | some r =>
          rw [e] at h
          simp only [Option.map_some, Option.some.injEq, Prod.mk.injEq] at h
          obtain ⟨rfl, rfl, rfl⟩ := h
          obtain ⟨i1, i2, i3, i4⟩ := part_is 0 t r.1 r.2 e
          rw [List.length_cons] at b1
          exact ⟨hd, i1, by omega, fun c hc => b2 c (by rw [byt_cons]; exact List.mem_cons_of_mem _ (i3 c hc)), fun c hc => b2 c (by rw [byt_cons]; exact List.mem_cons_of_mem _ (i4 c hc))⟩
      · rw [if_neg hd] at h; exact nomatch h
theorem mem_drop {R : Src} {n : Nat} {c : UInt8} (h : c ∈ byt (R.drop n)) : c ∈ byt R := by
  rw [byt_drop] at h; exact List.mem_of_mem_drop h
theorem quote_nx {R : Src} {k : Int} {n : Nat} {t : RTok} {R2 : Src} (hq : quoteL (byt R) = some (k, n)) (h : quoteS (place R) k (R.drop n) = some (t, R2)) : Nx R true t R2 := by
  have hk : (k = 4 ∨ k = 5 ∨ (k = 6 ∧ n = 2) ∨ k = 7 ∨ (k = 8 ∧ n = 1) ∨ (k = 9 ∧ n = 2)) := by
    unfold quoteL at hq
    split at hq
    · exact nomatch hq
    · split at hq
      · cases e : kindL (wordOr (byt R)) with
        | none => rw [e] at hq; exact nomatch hq
        | some k' =>
          rw [e] at hq
          simp only [Option.map_some, Option.some.injEq, Prod.mk.injEq] at hq
          obtain ⟨rfl, rfl⟩ := hq
          have hw : ∀ m : List UInt8, wordOr (byt R) = m → 1 < m.length → wordN (byt R) = m.length := fun m hm hl => by
            unfold wordOr at hm
            split at hm
            · rw [← hm, List.length_take] at hl; omega
            · rw [← hm, List.length_take]; have := wordN_le (byt R); omega
          have hw1 : wordOr (byt R) = [115] → wordN (byt R) = 1 := fun hm => by
            unfold wordOr at hm
            split at hm
            · rename_i h0
              exfalso
              cases hb : byt R with
              | nil => rw [hb] at hm; simp at hm
              | cons c u =>
                rw [hb] at hm h0
                simp only [List.take_succ_cons, List.take_zero, List.cons.injEq, and_true] at hm
                rw [hm, wordN_on (by decide)] at h0
                have := (wordR_le (l := 115 :: u) (115 :: u).length 1 (by simp)).2
                omega
            · have := congrArg List.length hm
              rw [List.length_take] at this
              have := wordN_le (byt R)
              simp only [List.length_singleton] at *
              omega
          unfold kindL at e
          split at e
          · injection e with e; exact .inl e.symm
          · split at e
            · injection e with e; exact .inr (.inl e.symm)
            · split at e
              · rename_i h6
                injection e with e
                exact .inr (.inr (.inl ⟨e.symm, hw [113, 119] (by simpa using h6) (by decide)⟩))
              · split at e
                · injection e with e; exact .inr (.inr (.inr (.inl e.symm)))
                · split at e
                  · rename_i h8
                    injection e with e
                    exact .inr (.inr (.inr (.inr (.inl ⟨e.symm, hw1 (by simpa using h8)⟩))))
                  · split at e
                    · rename_i h9
                      injection e with e
                      exact .inr (.inr (.inr (.inr (.inr ⟨e.symm, hw [116, 114] (by simpa using h9) (by decide)⟩))))
                    · exact nomatch e
      · exact nomatch hq
  have hdel : ∀ x S, R.drop n = x :: S → delimB x.2.toNat = true := fun x S e => by
    unfold quoteL at hq
    split at hq
    · exact nomatch hq
    · rename_i c hc
      split at hq
      · rename_i hd
        cases e2 : kindL (wordOr (byt R)) with
        | none => rw [e2] at hq; exact nomatch hq
        | some k' =>
          rw [e2] at hq
          simp only [Option.map_some, Option.some.injEq, Prod.mk.injEq] at hq
          have h0 : (byt (R.drop n))[0]? = some c := by rw [byt_drop, ← hq.2]; simpa using hc
          rw [e, byt_cons] at h0
          simp only [List.getElem?_cons_zero, Option.some.injEq] at h0
          rw [h0]; exact hd
      · exact nomatch hq
  have hdl : ∀ x S, R.drop n = x :: S → S.length + 1 + n = R.length ∧ ∀ c ∈ byt S, c ∈ byt R := fun x S e => by
    have := congrArg List.length e
    rw [List.length_drop, List.length_cons] at this
    refine ⟨by omega, fun c hc => mem_drop (n := n) (by rw [e, byt_cons]; exact List.mem_cons_of_mem _ hc)⟩
  cases e0 : R.drop n with
  | nil => rw [e0] at h; exact nomatch h
  | cons x S =>
    obtain ⟨d1, d2⟩ := hdl x S e0
    have d0 := hdel x S e0
    rw [e0] at h
    unfold quoteS at h
    simp only at h
    cases e : partS x.2 (partU x.2) 0 S with
    | none => rw [e] at h; exact nomatch h
    | some r =>
      rw [e] at h
      obtain ⟨i1, i2, i3, i4⟩ := part_is 0 S r.1 r.2 e
      obtain ⟨raw, R1⟩ := r
      simp only at h i1 i2 i3 i4
      have j3 : ∀ c ∈ raw, c ∈ byt R := fun c hc => d2 c (i3 c hc)
      have j4 : ∀ c ∈ byt R1, c ∈ byt R := fun c hc => d2 c (i4 c hc)
      rcases hk with rfl | rfl | ⟨rfl, rfl⟩ | rfl | hk
      · simp only [if_pos, Option.some.injEq, Prod.mk.injEq] at h
        obtain ⟨rfl, rfl⟩ := h
        exact .str _ 1 _ _ _ rfl (.inr rfl) (by omega) j3 j4
      · rw [if_neg (by decide), if_pos rfl] at h
        simp only [Option.some.injEq, Prod.mk.injEq] at h
        obtain ⟨rfl, rfl⟩ := h
        exact .inter _ 2 _ _ _ rfl (.inl rfl) (fun _ => d0) i1 (by omega) j3 j4
      · rw [if_neg (by decide), if_neg (by decide), if_pos rfl] at h
        simp only [Option.some.injEq, Prod.mk.injEq] at h
        obtain ⟨rfl, rfl⟩ := h
        exact .words _ _ _ _ rfl (by omega) j3 j4
      · rw [if_neg (by decide), if_neg (by decide), if_neg (by decide), if_pos rfl] at h
        simp only [Option.some.injEq, Prod.mk.injEq] at h
        obtain ⟨rfl, rfl⟩ := h
        exact .pat _ _ _ _ rfl i1 (by omega) j3 j4
      · have hk4 : k ≠ 4 ∧ k ≠ 5 ∧ k ≠ 6 ∧ k ≠ 7 := by rcases hk with ⟨rfl, _⟩ | ⟨rfl, _⟩ <;> decide
        rw [if_neg hk4.1, if_neg hk4.2.1, if_neg hk4.2.2.1, if_neg hk4.2.2.2] at h
        cases e2 : secondS x.2 R1 with
        | none => rw [e2] at h; exact nomatch h
        | some r2 =>
          obtain ⟨o2, raw2, R3⟩ := r2
          rw [e2] at h
          simp only at h
          obtain ⟨s0, s1, s2, s3, s4⟩ := second_is d0 e2
          have t3 : ∀ c ∈ raw2, c ∈ byt R := fun c hc => j4 c (s3 c hc)
          have t4 : ∀ c ∈ byt R3, c ∈ byt R := fun c hc => j4 c (s4 c hc)
          rcases hk with ⟨rfl, rfl⟩ | ⟨rfl, rfl⟩
          · rw [if_pos rfl] at h
            simp only [Option.some.injEq, Prod.mk.injEq] at h
            obtain ⟨rfl, rfl⟩ := h
            exact .subst _ _ _ _ _ _ rfl s0 i1 s1 (by omega) j3 t3 t4
          · rw [if_neg (by decide)] at h
            simp only [Option.some.injEq, Prod.mk.injEq] at h
            obtain ⟨rfl, rfl⟩ := h
            exact .trans _ _ _ _ _ _ rfl (by omega) j3 t3 t4
end Go.Proofs.YthmopindibdhnaaDoor.G.Bk
namespace Go.Proofs.YthmopindibdhnaaDoor.G.Bk
open Go.RowKit Go.Shelf
theorem takeWhile_mem {p : Nat × UInt8 → Bool} {R : Src} {c : UInt8} (h : c ∈ byt (R.takeWhile p)) : c ∈ byt R := by
  unfold byt at h ⊢
  obtain ⟨x, hx, rfl⟩ := List.mem_map.1 h
  exact List.mem_map.2 ⟨x, (List.takeWhile_subset p) hx, rfl⟩
theorem dropWhile_mem {p : Nat × UInt8 → Bool} {R : Src} {c : UInt8} (h : c ∈ byt (R.dropWhile p)) : c ∈ byt R := by
  unfold byt at h ⊢
  obtain ⟨x, hx, rfl⟩ := List.mem_map.1 h
  exact List.mem_map.2 ⟨x, (List.dropWhile_sublist p).subset hx, rfl⟩
theorem tw_len (p : Nat × UInt8 → Bool) (R : Src) : (R.takeWhile p).length + (R.dropWhile p).length = R.length := by
  rw [← List.length_append, List.takeWhile_append_dropWhile]
theorem lines_is {name : List UInt8} : ∀ (f : Nat) (R : Src) (raw : List UInt8) (R2 : Src), linesS name f R = some (raw, R2) →
    (raw.getLast? = none ∨ raw.getLast? = some 10) ∧ raw.length + R2.length ≤ R.length ∧ (∀ c ∈ raw, c ∈ byt R) ∧ (∀ c ∈ byt R2, c ∈ byt R)
  | 0, R, raw, R2, h => nomatch h
  | f + 1, R, raw, R2, h => by
    rw [linesS] at h
    by_cases h0 : R = []
    · rw [if_pos h0] at h; exact nomatch h
    · rw [if_neg h0] at h
      have hl := tw_len notNl R
      by_cases h1 : byt (R.takeWhile notNl) = name
      · rw [if_pos h1] at h
        simp only [Option.some.injEq, Prod.mk.injEq] at h
        obtain ⟨rfl, rfl⟩ := h
        exact ⟨.inl rfl, by simp only [List.length_nil, List.length_drop]; omega, by simp, fun c hc => dropWhile_mem (mem_drop hc)⟩
      · rw [if_neg h1] at h
        cases e : linesS name f ((R.dropWhile notNl).drop 1) with
        | none => rw [e] at h; exact nomatch h
        | some r =>
          rw [e] at h
          simp only [Option.map_some, Option.some.injEq, Prod.mk.injEq] at h
          obtain ⟨rfl, rfl⟩ := h
          obtain ⟨i0, i1, i2, i3⟩ := lines_is f _ r.1 r.2 e
          -- what follows is not nothing
          have hne : ∃ x u, R.dropWhile notNl = x :: u := by
            cases hd : R.dropWhile notNl with
            | nil =>
              rw [hd] at e
              cases f with
              | zero => exact nomatch e
              | succ f => rw [List.drop_nil, linesS, if_pos rfl] at e; exact nomatch e
            | cons x u => exact ⟨x, u, rfl⟩
          obtain ⟨x, u, hd⟩ := hne
          have hx : x.2 = 10 := by
            have := List.head?_dropWhile_not notNl R
            rw [hd] at this
            simpa [notNl] using this
          rw [hd] at i1 i2 i3 hl ⊢
          rw [List.drop_succ_cons, List.drop_zero] at i1 i2 i3
          rw [List.take_succ_cons, List.take_zero, byt_cons, byt_nil]
          refine ⟨?_, ?_, ?_, ?_⟩
          · rcases i0 with i0 | i0
            · rw [List.getLast?_eq_none_iff] at i0
              rw [i0, List.append_nil]
              refine .inr ?_
              rw [List.getLast?_append, hx]; rfl
            · refine .inr ?_
              rw [List.getLast?_append, i0]; rfl
          · simp only [List.length_append, List.length_cons, List.length_nil, byt_len] at hl ⊢; omega
          · intro c hc
            have hmem : ∀ c ∈ byt (x :: u), c ∈ byt R := fun c hc => by rw [← hd] at hc; exact dropWhile_mem hc
            rw [List.mem_append, List.mem_append] at hc
            rcases hc with (hc | hc) | hc
            · exact takeWhile_mem hc
            · rw [List.mem_singleton] at hc; exact hmem c (by rw [hc, byt_cons]; exact List.mem_cons_self)
            · exact hmem c (by rw [byt_cons]; exact List.mem_cons_of_mem _ (i2 c hc))
          · intro c hc
            have hmem : ∀ c ∈ byt (x :: u), c ∈ byt R := fun c hc => by rw [← hd] at hc; exact dropWhile_mem hc
            exact hmem c (by rw [byt_cons]; exact List.mem_cons_of_mem _ (i3 c hc))
theorem cut_is {name : List UInt8} {R : Src} {raw : List UInt8} {R2 : Src} (h : cutS name R = some (raw, R2)) :
    Pc All All raw ∧ raw.length + R2.length ≤ R.length ∧ (∀ c ∈ raw, c ∈ byt R) ∧ (∀ c ∈ byt R2, c ∈ byt R) := by
  unfold cutS at h
  have hl := tw_len notNl R
  cases hd : R.dropWhile notNl with
  | nil => rw [hd] at h; exact nomatch h
  | cons x t =>
    rw [hd] at h hl
    simp only at h
    cases e : linesS name (t.length + 1) t with
    | none => rw [e] at h; exact nomatch h
    | some r =>
      rw [e] at h
      simp only [Option.map_some, Option.some.injEq, Prod.mk.injEq] at h
      obtain ⟨rfl, rfl⟩ := h
      obtain ⟨i0, i1, i2, i3⟩ := lines_is _ t r.1 r.2 e
      have hmem : ∀ c ∈ byt (x :: t), c ∈ byt R := fun c hc => by rw [← hd] at hc; exact dropWhile_mem hc
      refine ⟨pc_last _ (by rcases i0 with i0 | i0 <;> rw [i0] <;> decide), by simp only [List.length_append, List.length_cons] at hl ⊢; omega, fun c hc => hmem c (by rw [byt_cons]; exact List.mem_cons_of_mem _ (i2 c hc)), fun c hc => ?_⟩
      rw [byt_app, byt_cons, List.mem_append, List.mem_cons] at hc
      rcases hc with hc | hc | hc
      · exact takeWhile_mem hc
      · exact hmem c (by rw [byt_cons, hc]; exact List.mem_cons_self)
      · exact hmem c (by rw [byt_cons]; exact List.mem_cons_of_mem _ (i3 c hc))
theorem next_nx {R : Src} {term : Bool} {t : RTok} {R2 : Src} (h : nextS false R term = some (t, R2)) : Nx R term t R2 := by
  unfold nextS at h
  cases term with
  | false =>
    rw [if_neg (by decide)] at h
    exact plain_nx (fun e => nomatch e) h
  | true =>
    rw [if_pos rfl] at h
    cases hq : quoteL (byt R) with
    | some r =>
      obtain ⟨k, n⟩ := r
      rw [hq] at h
      exact quote_nx hq h
    | none =>
      rw [hq] at h
      simp only at h
      cases hh : hereS (byt R) with
      | some r =>
        obtain ⟨n, name, more⟩ := r
        rw [hh] at h
        simp only at h
        have hn : 2 ≤ n := by
          unfold hereS at hh
          split at hh
          · cases e : hereL ((byt R).drop 2) with
            | none => rw [e] at hh; exact nomatch hh
            | some r => rw [e] at hh; simp only [Option.map_some, Option.some.injEq, Prod.mk.injEq] at hh; omega
          · exact nomatch hh
        have h2 : 2 ≤ R.length := by
          unfold hereS at hh
          split at hh
          · rename_i h1
            have := (List.getElem?_eq_some_iff.1 h1.2).1
            rw [byt_len] at this; omega
          · exact nomatch hh
        cases e : cutS name (R.drop n) with
        | none => rw [e] at h; exact nomatch h
        | some r =>
          rw [e] at h
          simp only [Option.map_some, Option.some.injEq, Prod.mk.injEq] at h
          obtain ⟨rfl, rfl⟩ := h
          obtain ⟨c1, c2, c3, c4⟩ := cut_is e
          rw [List.length_drop] at c2
          have k3 : ∀ c ∈ r.1, c ∈ byt R := fun c hc => mem_drop (c3 c hc)
          have k4 : ∀ c ∈ byt r.2, c ∈ byt R := fun c hc => mem_drop (c4 c hc)
          have hR2 : r.1.length + r.2.length + 2 ≤ R.length := by
            by_cases hz : n ≤ R.length
            · omega
            · omega
          cases more with
          | true => exact .inter _ 7 _ _ _ rfl (.inr rfl) (fun e => absurd e (by decide)) c1 hR2 k3 k4
          | false => exact .str _ 0 _ _ _ rfl (.inl rfl) hR2 k3 k4
      | none =>
        rw [hh] at h
        simp only at h
        cases hv : varS false (byt R) with
        | none => rw [hv] at h; exact nomatch h
        | some n =>
          rw [hv] at h
          cases n with
          | zero => exact plain_nx (fun _ => hq) h
          | succ n =>
            simp only [Option.some.injEq, Prod.ext_iff] at h
            obtain ⟨rfl, rfl⟩ := h
            exact .var n rfl hv
theorem varS_len {r : Bool} {B : List UInt8} {n : Nat} (h : varS r B = some (n + 1)) : n + 1 ≤ B.length := by
  unfold varS at h
  rcases B with _ | ⟨c, _ | ⟨d, t⟩⟩
  · exact nomatch h
  · exact nomatch h
  · simp only at h
    have hw := wordN_le (d :: t)
    rw [List.length_cons]
    split at h
    · split at h
      · split at h
        · exact nomatch h
        · injection h with h; omega
      · split at h
        · injection h with h; omega
        · split at h
          · injection h with h; rw [List.length_cons]; omega
          · injection h with h; omega
    · injection h with h; omega
theorem textP_asIs (k n : Nat) (R : Src) : textV (asIs k n R).1 = (byt R).take n := by unfold textV asIs; rfl
theorem replP_asIs (k n : Nat) (R : Src) : replV (asIs k n R).1 = [] := by unfold replV asIs; rfl
theorem flagS_len (R : Src) (all : List UInt8) : flagS R all ≤ R.length := by
  have := (flag_cut (B := byt R) (K := []) all 0 (fun c hc => nomatch hc) (Nat.zero_le _)).2.1
  rw [byt_len] at this; exact this
section
variable {R R2 : Src} {term : Bool} {t : RTok}
theorem len_4 {pl f : Nat} {raw : List UInt8} {o : UInt8} (h : f = 0 ∨ f = 1) : (textV ⟨4, pl, f, raw, [], [], o, 0, 0⟩).length ≤ raw.length := by
  rcases h with rfl | rfl
  · exact Nat.le_refl _
  · exact plR_len _ _ _
theorem len_5 {pl f : Nat} {raw : List UInt8} {o : UInt8} (h : f = 2 ∨ f = 7) : (textV ⟨5, pl, f, raw, [], [], o, 0, 0⟩).length ≤ 2 * raw.length := by
  rcases h with rfl | rfl
  · exact inR_len _ _ _ _
  · exact inR_len _ _ _ _
/-- how much a token takes, read and written -/
theorem nx_len (h : Nx R term t R2) : (wrR t).length + 1 + 3 * R2.length ≤ 3 * R.length := by
  have asis : ∀ k n, (k = 0 ∨ k = 1 ∨ k = 2 ∨ k = 3) → 1 ≤ n → n ≤ R.length → (wrR (asIs k n R).1).length + 1 + 3 * (R.drop n).length ≤ 3 * R.length := fun k n hk h1 h2 => by
    have : wrR (asIs k n R).1 = (byt R).take n := by
      rw [← textP_asIs k n R]
      rcases hk with rfl | rfl | rfl | rfl <;> rfl
    rw [this, List.length_take, byt_len, List.length_drop]
    omega
  cases h with
  | word n h1 h2 h3 =>
    refine asis 0 _ (by simp) h2 ?_
    have := wordN_le (byt R)
    rw [byt_len] at this; omega
  | num x u h1 h2 =>
    have := digN_cut (B := byt R) (K := []) (by rw [h1, byt_len]; simp) (fun c hc => nomatch hc)
    refine asis 1 _ (by simp) this.2.1 ?_
    have := this.2.2
    rw [byt_len] at this; exact this
  | sign n h1 h2 h3 => exact asis 3 _ (by simp) h2 h3
  | var n h1 h2 =>
    have := varS_len h2
    rw [byt_len] at this
    exact asis 2 _ (by simp) (by omega) this
  | str pl f raw o _ h0 h1 h2 =>
    have := len_4 (pl := pl) (raw := raw) (o := o) h1
    show ([39] ++ escG [39, 92] (textV ⟨4, pl, f, raw, [], [], o, 0, 0⟩) ++ [39]).length + 1 + _ ≤ _
    have := esc_len [39, 92] (textV ⟨4, pl, f, raw, [], [], o, 0, 0⟩)
    simp only [List.length_append, List.length_cons, List.length_nil]; omega
  | inter pl f raw o _ h0 h1 hd h2 h3 =>
    have := len_5 (pl := pl) (raw := raw) (o := o) h1
    show ([34] ++ textV ⟨5, pl, f, raw, [], [], o, 0, 0⟩ ++ [34]).length + 1 + _ ≤ _
    simp only [List.length_append, List.length_cons, List.length_nil]; omega
  | words pl raw o _ h0 h1 =>
    show ([113, 119, 40] ++ escG [40, 41, 92] (wordsR (plR o (partU o) raw)) ++ [41]).length + 1 + _ ≤ _
    have := esc_len [40, 41, 92] (wordsR (plR o (partU o) raw))
    have := words_len (plR o (partU o) raw)
    have := plR_len o (partU o) raw
    simp only [List.length_append, List.length_cons, List.length_nil]; omega
  | pat pl raw o R1 h0 h1 h2 =>
    show ([109, 47] ++ escG [47] (patR raw) ++ [47] ++ (byt R1).take (flagS R1 flagsP)).length + 1 + _ ≤ _
    have := esc_len [47] (patR raw)
    have := patR_len raw
    have := flagS_len R1 flagsP
    simp only [List.length_append, List.length_cons, List.length_nil, List.length_take, List.length_drop, byt_len]; omega
  | subst pl raw raw2 o o2 R1 h0 hd h1 h2 h3 =>
    show ([115, 47] ++ escG [47] (patR raw) ++ [47] ++ escG [47] (inR o2 (partU o2) true raw2) ++ [47] ++ (byt R1).take (flagS R1 flagsP)).length + 1 + _ ≤ _
    have := esc_len [47] (patR raw)
    have := patR_len raw
    have := sub_len (o := o2) (q := partU o2) raw2
    have := flagS_len R1 flagsP
    simp only [List.length_append, List.length_cons, List.length_nil, List.length_take, List.length_drop, byt_len]; omega
  | trans pl raw raw2 o o2 R1 h0 h1 =>
    show ([116, 114, 47] ++ escG [47, 92] (plR o (partU o) raw) ++ [47] ++ escG [47, 92] (plR o2 (partU o2) raw2) ++ [47] ++ (byt R1).take (flagS R1 flagsT)).length + 1 + _ ≤ _
    have := esc_len [47, 92] (plR o (partU o) raw)
    have := plR_len o (partU o) raw
    have := esc_len [47, 92] (plR o2 (partU o2) raw2)
    have := plR_len o2 (partU o2) raw2
    have := flagS_len R1 flagsT
    simp only [List.length_append, List.length_cons, List.length_nil, List.length_take, List.length_drop, byt_len]; omega
def Own (l : List UInt8) : Prop := ∀ c ∈ l, ownC c = true
theorem own_lit {l : List UInt8} (h : l.all ownC = true) : Own l := fun c hc => List.all_eq_true.1 h c hc
theorem Own.app {a b : List UInt8} (ha : Own a) (hb : Own b) : Own (a ++ b) := fun c hc => by
  rw [List.mem_append] at hc; exact hc.elim (ha c) (hb c)
theorem own_esc {z l : List UInt8} (h : Own l) : Own (escG z l) := fun c hc => (esc_mem hc).elim (h c) (fun e => by rw [e]; decide)
theorem own_in {o q : UInt8} {sl : Bool} {l : List UInt8} (h : Own l) : Own (inR o q sl l) := fun c hc => (inR_mem l c hc).elim (h c) (fun e => by rw [e]; decide)
theorem own_words {l : List UInt8} (h : Own l) : Own (wordsR l) := fun c hc => by
  rcases wo_mem l [] false c hc with e | e | e
  · exact nomatch e
  · exact h c e
  · rw [e]; decide
/-- what is written has bytes that sources have, if what was read has -/
theorem nx_own (h : Nx R term t R2) (hR : Own (byt R)) : Own (wrR t) ∧ Own (byt R2) ∧ Own t.raw := by
  have asis : ∀ k n, (k = 0 ∨ k = 1 ∨ k = 2 ∨ k = 3) → Own (wrR (asIs k n R).1) ∧ Own (byt (R.drop n)) ∧ Own (asIs k n R).1.raw := fun k n hk => by
    have : wrR (asIs k n R).1 = (byt R).take n := by
      rw [← textP_asIs k n R]
      rcases hk with rfl | rfl | rfl | rfl <;> rfl
    rw [this]
    exact ⟨fun c hc => hR c (List.mem_of_mem_take hc), fun c hc => hR c (mem_drop hc), fun c hc => hR c (List.mem_of_mem_take hc)⟩
  have dr : ∀ (R1 : Src) (n : Nat), (∀ c ∈ byt R1, c ∈ byt R) → Own (byt (R1.drop n)) := fun R1 n h c hc => hR c (h c (mem_drop hc))
  have fl : ∀ (R1 : Src) (n : Nat), (∀ c ∈ byt R1, c ∈ byt R) → Own ((byt R1).take n) := fun R1 n h c hc => hR c (h c (List.mem_of_mem_take hc))
  have l39 : Own [39] := own_lit (by decide)
  cases h with
  | word n h1 h2 h3 => exact asis 0 _ (by simp)
  | num x u h1 h2 => exact asis 1 _ (by simp)
  | sign n h1 h2 h3 => exact asis 3 _ (by simp)
  | var n h1 h2 => exact asis 2 _ (by simp)
  | str pl f raw o _ h0 h1 h2 h3 h4 =>
    have hr : Own raw := fun c hc => hR c (h3 c hc)
    have ht : Own (textV ⟨4, pl, f, raw, [], [], o, 0, 0⟩) := by
      rcases h1 with rfl | rfl
      · exact hr
      · exact fun c hc => hr c (plR_mem _ c hc)
    exact ⟨((l39.app (own_esc ht)).app l39), fun c hc => hR c (h4 c hc), hr⟩
  | inter pl f raw o _ h0 h1 hd h2 h3 h4 h5 =>
    have hr : Own raw := fun c hc => hR c (h4 c hc)
    have ht : Own (textV ⟨5, pl, f, raw, [], [], o, 0, 0⟩) := by
      rcases h1 with rfl | rfl
      · exact own_in hr
      · exact own_in hr
    exact ⟨(((own_lit (by decide) : Own [34]).app ht).app (own_lit (by decide) : Own [34])), fun c hc => hR c (h5 c hc), hr⟩
  | words pl raw o _ h0 h1 h2 h3 =>
    have hr : Own raw := fun c hc => hR c (h2 c hc)
    exact ⟨(((own_lit (by decide) : Own [113, 119, 40]).app (own_esc (own_words fun c hc => hr c (plR_mem _ c hc)))).app (own_lit (by decide) : Own [41])), fun c hc => hR c (h3 c hc), hr⟩
  | pat pl raw o R1 h0 h1 h2 h3 h4 =>
    have hr : Own raw := fun c hc => hR c (h3 c hc)
    exact ⟨((((own_lit (by decide) : Own [109, 47]).app (own_esc fun c hc => hr c (patR_mem _ c hc))).app (own_lit (by decide) : Own [47])).app (fl _ _ h4)), dr _ _ h4, hr⟩
  | subst pl raw raw2 o o2 R1 h0 hd h1 h2 h3 h4 h5 h6 =>
    have hr : Own raw := fun c hc => hR c (h4 c hc)
    exact ⟨((((((own_lit (by decide) : Own [115, 47]).app (own_esc fun c hc => hr c (patR_mem _ c hc))).app (own_lit (by decide) : Own [47])).app (own_esc (own_in fun c hc => hR c (h5 c hc)))).app (own_lit (by decide) : Own [47])).app (fl _ _ h6)), dr _ _ h6, hr⟩
  | trans pl raw raw2 o o2 R1 h0 h1 h2 h3 h4 =>
    have hr : Own raw := fun c hc => hR c (h2 c hc)
    exact ⟨((((((own_lit (by decide) : Own [116, 114, 47]).app (own_esc fun c hc => hr c (plR_mem _ c hc))).app (own_lit (by decide) : Own [47])).app (own_esc fun c hc => hR c (h3 c (plR_mem _ c hc)))).app (own_lit (by decide) : Own [47])).app (fl _ _ h4)), dr _ _ h4, hr⟩
end
end Go.Proofs.YthmopindibdhnaaDoor.G.Bk
