/- BkE BkF -/
import Derived.Test.YthmopindibdhnaaDoorM23
namespace Go.Proofs.YthmopindibdhnaaDoor.G.Bk
open Go.RowKit Go.Shelf
variable {R R2 R' : Src} {term : Bool} {t : RTok} {K : List UInt8}
structure Kok (t : RTok) (term : Bool) (K : List UInt8) : Prop where
  stp : Stp K
  word : t.kind = 0 → Blk K
  sig : t.kind = 3 → t.raw = [36] ∨ t.raw = [64] → K[0]? = some 36 ∨ K[0]? = some 123
theorem next_plain (h1 : quoteL (byt R') = none) (h2 : hereS (byt R') = none) (h3 : varS false (byt R') = some 0) (term : Bool) : nextS false R' term = plainS R' term := by
  unfold nextS
  cases term with
  | false => rw [if_neg (by decide)]
  | true => rw [if_pos rfl, h1]; simp only; rw [h2]; simp only; rw [h3]
theorem asIs_new {k n m : Nat} {w : List UInt8} (hw : (byt R).take n = w) (hm : w.length = m) (hR' : byt R' = w ++ K) : byt (asIs k m R').2 = K ∧ Sm (asIs k n R).1 (asIs k m R').1 := by
  have e : (byt R').take m = w := by rw [hR', List.take_left' hm]
  refine ⟨?_, ⟨rfl, by rw [textP_asIs, textP_asIs, hw, e], by rw [replP_asIs, replP_asIs], rfl, rfl, fun _ => ?_⟩⟩
  · show byt (R'.drop m) = K
    rw [byt_drop, hR', List.drop_left' hm]
  · show (byt R).take n = (byt R').take m
    rw [hw, e]
theorem src_cons {c : UInt8} {u : List UInt8} (h : byt R' = c :: u) : ∃ x S, R' = x :: S ∧ x.2 = c ∧ byt S = u := by
  cases R' with
  | nil => simp at h
  | cons x S => rw [byt_cons] at h; injection h with h1 h2; exact ⟨x, S, rfl, h1, h2⟩
theorem wr_asIs {k n : Nat} (hk : k ≤ 3) : wrR (asIs k n R).1 = (byt R).take n := by
  rw [← textP_asIs k n R]
  have : k = 0 ∨ k = 1 ∨ k = 2 ∨ k = 3 := by omega
  rcases this with rfl | rfl | rfl | rfl <;> rfl
theorem sign_heads : ∀ S ∈ signsL, S[0]? ≠ some 36 ∧ S[0]? ≠ some 64 := by decide
def NewP (t : RTok) (term : Bool) (K : List UInt8) (R' : Src) : Prop := ∃ t2 R2', nextS false R' term = some (t2, R2') ∧ byt R2' = K ∧ Sm t t2
theorem new_word {n : Nat} (h1 : n = wordN (byt R)) (h2 : 1 ≤ n) (h3 : n ≤ 12) (hK : Blk K) (hR' : byt R' = (byt R).take n ++ K) : NewP (asIs 0 n R).1 term K R' := by
  subst h1
  have hw := wordN_cut (B := byt R) hK.stp
  rw [← hR'] at hw
  have hle := wordN_le (byt R)
  have hlen : ((byt R).take (wordN (byt R))).length = wordN (byt R) := by rw [List.length_take]; omega
  obtain ⟨c, u, hc⟩ : ∃ c u, (byt R).take (wordN (byt R)) = c :: u := by
    cases e : (byt R).take (wordN (byt R)) with
    | nil => rw [e] at hlen; simp at hlen; omega
    | cons c u => exact ⟨c, u, rfl⟩
  have hR2 : byt R' = c :: (u ++ K) := by rw [hR', hc]; rfl
  obtain ⟨x, S, rfl, hx, hS⟩ := src_cons hR2
  have ha : alphaB c.toNat = true := by
    cases e : alphaB c.toNat with
    | true => rfl
    | false => rw [hR2, wordN_head e] at hw; omega
  have hf := alpha_facts c ha
  have hq : quoteL (byt (x :: S)) = none := by
    unfold quoteL
    rw [hw]
    have : (byt (x :: S))[wordN (byt R)]? = K[0]? := by rw [hR']; exact cut_at hle
    rw [this]
    cases e : K[0]? with
    | none => rfl
    | some d => simp only; rw [hK d e]; rfl
  refine ⟨_, _, by rw [next_plain hq (by rw [hR2]; exact hereS_head hf.2.1) (by rw [hR2]; exact varS_head hf.1)]; unfold plainS; simp only; rw [hx, if_pos ha, hw, if_pos h3], ?_⟩
  exact asIs_new rfl hlen hR'
theorem new_num {x : Nat × UInt8} {u : Src} (h1 : R = x :: u) (h2 : digB x.2.toNat = true) (hK : Stp K) (hR' : byt R' = (byt R).take (digN (byt R)) ++ K) : NewP (asIs 1 (digN (byt R)) R).1 term K R' := by
  obtain ⟨d1, d2, d3⟩ := digN_cut (B := byt R) (K := K) (by rw [h1, byt_len]; simp) hK
  rw [← hR'] at d1
  have hlen : ((byt R).take (digN (byt R))).length = digN (byt R) := by rw [List.length_take]; omega
  have h0 : (byt R')[0]? = some x.2 := by
    rw [hR', ← cut_get d3 (by omega), h1]; rfl
  obtain ⟨v, hv⟩ : ∃ v, byt R' = x.2 :: v := by
    cases e : byt R' with
    | nil => rw [e] at h0; exact nomatch h0
    | cons c v => rw [e] at h0; simp only [List.getElem?_cons_zero, Option.some.injEq] at h0; exact ⟨v, by rw [h0]⟩
  obtain ⟨y, S, rfl, hy, hS⟩ := src_cons hv
  have hf := dig_facts x.2 h2
  refine ⟨_, _, by rw [next_plain (by rw [hv, quoteL_head hf.1, if_neg (by rw [hf.2.1]; decide)]) (by rw [hv]; exact hereS_head hf.2.2.2.1) (by rw [hv]; exact varS_head hf.2.2.1)]; unfold plainS; simp only; rw [hy, if_neg (by rw [hf.1]; decide), if_pos h2, d1], ?_⟩
  exact asIs_new rfl hlen hR'
theorem new_sign {n : Nat} (h1 : (byt R).take n ∈ signs2) (h2 : 1 ≤ n) (h3 : n ≤ R.length) (h4 : (byt R).take n ∈ signsL ∨ (term = true ∧ ((byt R)[1]? = some 36 ∨ (byt R)[1]? = some 123) ∧ n = 1)) (h5 : term = true → ((byt R).take n)[0]? ≠ some 47)
    (hK : Stp K) (hsig : (byt R).take n = [36] ∨ (byt R).take n = [64] → K[0]? = some 36 ∨ K[0]? = some 123) (hR' : byt R' = (byt R).take n ++ K) : NewP (asIs 3 n R).1 term K R' := by
  have hlen : ((byt R).take n).length = n := by rw [List.length_take, byt_len]; omega
  generalize hS : (byt R).take n = S at *
  have hf := signs2_facts S h1
  obtain ⟨c, u, hc⟩ : ∃ c u, S = c :: u := by
    cases e : S with
    | nil => rw [e] at hlen; simp at hlen; omega
    | cons c u => exact ⟨c, u, rfl⟩
  have hal : alphaB c.toNat = false ∧ digB c.toNat = false := by
    rw [hc] at hf
    simp only [sgnOk, Bool.and_eq_true, Bool.not_eq_true'] at hf
    exact ⟨hf.1.1.1.1.1.1.1, hf.1.1.1.1.1.1.2⟩
  have hR2 : byt R' = c :: (u ++ K) := by rw [hR', hc]; rfl
  -- the sign is read again
  have hsn : signS (byt R') term = n := by
    by_cases hm : S ∈ signsL
    · have : signN (byt R') = n := by
        rw [hR', ← hlen]
        exact signN_of (by unfold isSignB; exact List.contains_iff_mem.2 hm) hK
      unfold signS
      rw [if_pos (by omega), this]
    · rcases h4 with h4 | ⟨ht, _, hn1⟩
      · exact absurd h4 hm
      · have hcs : S = [36] ∨ S = [64] := by
          unfold signs2 at h1
          simp only [List.mem_cons] at h1
          rcases h1 with h1 | h1 | h1
          · exact .inl h1
          · exact .inr h1
          · exact absurd h1 hm
        have hk := hsig hcs
        have hc2 : c = 36 ∨ c = 64 := by
          rcases hcs with e | e <;> rw [e] at hc <;> injection hc with hc _
          · exact .inl hc.symm
          · exact .inr hc.symm
        have hu : u = [] := by rw [hc] at hlen; simp at hlen; cases u with | nil => rfl | cons _ _ => simp at hlen; omega
        have hno : ¬ 0 < signN (byt R') := fun hp => by
          have hsm := (signN_is hp).1
          have hh := sign_heads _ hsm
          have e0 : ((byt R').take (signN (byt R')))[0]? = some c := by
            rw [List.getElem?_take_of_lt hp, hR2]; rfl
          rw [e0] at hh
          rcases hc2 with e | e
          · exact hh.1 (by rw [e])
          · exact hh.2 (by rw [e])
        unfold signS
        rw [if_neg hno, if_pos, hn1]
        refine ⟨ht, ?_, ?_⟩
        · rw [hR2]; rcases hc2 with e | e <;> rw [e] <;> simp
        · rw [hR2, hu]; simpa using hk
  obtain ⟨x, S', rfl, hx, _⟩ := src_cons hR2
  have hpl : plainS (x :: S') term = some (asIs 3 n (x :: S')) := by
    unfold plainS
    simp only
    rw [hx, if_neg (by rw [hal.1]; decide), if_neg (by rw [hal.2]; decide), hsn, if_pos (by omega)]
  have hnx : nextS false (x :: S') term = plainS (x :: S') term := by
    cases term with
    | false => unfold nextS; rw [if_neg (by decide)]
    | true =>
      obtain ⟨p1, p2, p3⟩ := sgn_pre h1 hK (h5 rfl)
      rw [← hR'] at p1 p2 p3
      exact next_plain p1 p2 p3 true
  exact ⟨_, _, hnx.trans hpl, asIs_new hS hlen hR'⟩
theorem new_var {n : Nat} (h0 : term = true) (h1 : varS false (byt R) = some (n + 1)) (hK : Stp K) (hR' : byt R' = (byt R).take (n + 1) ++ K) : NewP (asIs 2 (n + 1) R).1 term K R' := by
  subst h0
  have hlen : ((byt R).take (n + 1)).length = n + 1 := by have := varS_len h1; rw [List.length_take]; omega
  have hfin : varS false (byt R') = some (n + 1) ∧ ∃ c u, byt R' = c :: u ∧ sigilB c.toNat = true := by
    rw [hR']
    generalize byt R = B at *
    unfold varS at h1
    rcases B with _ | ⟨c, _ | ⟨d, v⟩⟩
    · exact nomatch h1
    · exact nomatch h1
    · simp only at h1
      by_cases hs : sigilB c.toNat = true
      · rw [if_pos hs] at h1
        by_cases hl : 12 < wordN (d :: v)
        · rw [if_pos hl] at h1
          split at h1
          · exact nomatch h1
          · injection h1 with h1; omega
        · rw [if_neg hl] at h1
          by_cases hp : 0 < wordN (d :: v)
          · rw [if_pos hp] at h1
            injection h1 with h1
            have hn : n = wordN (d :: v) := by omega
            subst hn
            have hcut := wordN_cut (B := d :: v) hK
            refine ⟨?_, c, (d :: v).take (wordN (d :: v)) ++ K, by rw [List.take_succ_cons]; rfl, hs⟩
            rw [List.take_succ_cons]
            obtain ⟨d', v', e⟩ : ∃ d' v', (d :: v).take (wordN (d :: v)) ++ K = d' :: v' := by
              obtain ⟨m, hm⟩ : ∃ m, wordN (d :: v) = m + 1 := ⟨wordN (d :: v) - 1, by omega⟩
              rw [hm, List.take_succ_cons]
              exact ⟨_, _, rfl⟩
            rw [e] at hcut
            rw [List.cons_append, e]
            unfold varS
            simp only
            rw [if_pos hs, hcut, if_neg hl, if_pos hp, h1]
          · rw [if_neg hp] at h1
            by_cases hsp : c = 36 ∧ specB d.toNat = true
            · rw [if_pos hsp] at h1
              injection h1 with h1
              have hn : n = 1 := by omega
              subst hn
              refine ⟨?_, c, [d] ++ K, rfl, hs⟩
              show varS false (c :: d :: K) = some 2
              unfold varS
              simp only
              rw [if_pos hs, wordN_head (spec_facts d hsp.2), if_neg (by omega), if_neg (by omega), if_pos hsp]
            · rw [if_neg hsp] at h1; injection h1 with h1; omega
      · rw [if_neg hs] at h1; injection h1 with h1; omega
  obtain ⟨f1, c, u, f2, f3⟩ := hfin
  have hf := sigil_facts c f3
  refine ⟨_, _, ?_, asIs_new rfl hlen hR'⟩
  unfold nextS
  rw [if_pos rfl]
  have hq : quoteL (byt R') = none := by rw [f2, quoteL_head hf.1, if_neg (by rw [hf.2.2.2.1]; decide)]
  have hh : hereS (byt R') = none := by rw [f2]; exact hereS_head hf.2.2.1
  rw [hq]; simp only; rw [hh]; simp only; rw [f1]
theorem quote_two {c d e : UInt8} {u : List UInt8} {k : Int} (h1 : alphaB c.toNat = true) (h2 : alphaB d.toNat = true) (h3 : (alphaB e.toNat || digB e.toNat) = false) (h4 : e ≠ 58) (h5 : delimB e.toNat = true) (h6 : kindL [c, d] = some k) : quoteL (c :: d :: e :: u) = some (k, 2) := by
  have hw : wordN (c :: d :: e :: u) = 2 := by
    have hs : sepAt (c :: d :: e :: u) 2 = false := by
      cases h : sepAt (c :: d :: e :: u) 2 with
      | false => rfl
      | true => have := ((sep_as _ 2).1 h).1; simp at this; exact absurd this h4
    rw [wordN_on h1]
    show wordR _ (u.length + 2 + 1) 1 = 2
    have : wordR (c :: d :: e :: u) (u.length + 2 + 1) 1 = wordR (c :: d :: e :: u) (u.length + 2) 2 := by
      rw [wordR, show (c :: d :: e :: u)[1]? = some d from rfl]; simp only; rw [if_pos (by rw [h2]; rfl)]
    rw [this]
    exact wordR_stop (n := 2) (by simp) h3 hs
  unfold quoteL wordOr
  rw [hw, if_neg (by omega)]
  show (if delimB e.toNat = true then (kindL [c, d]).map fun k => (k, 2) else none) = some (k, 2)
  rw [if_pos h5, h6]; rfl
theorem quote_one {c e : UInt8} {u : List UInt8} {k : Int} (h1 : alphaB c.toNat = true) (h3 : (alphaB e.toNat || digB e.toNat) = false) (h4 : e ≠ 58) (h5 : delimB e.toNat = true) (h6 : kindL [c] = some k) : quoteL (c :: e :: u) = some (k, 1) := by
  have hw : wordN (c :: e :: u) = 1 := by
    have hs : sepAt (c :: e :: u) 1 = false := by
      cases h : sepAt (c :: e :: u) 1 with
      | false => rfl
      | true => have := ((sep_as _ 1).1 h).1; simp at this; exact absurd this h4
    rw [wordN_on h1]
    exact wordR_stop (n := 1) (by simp) h3 hs
  unfold quoteL wordOr
  rw [hw, if_neg (by omega)]
  show (if delimB e.toNat = true then (kindL [c]).map fun k => (k, 1) else none) = some (k, 1)
  rw [if_pos h5, h6]; rfl
theorem quote_none {c : UInt8} {u : List UInt8} {k : Int} (h1 : alphaB c.toNat = false) (h5 : delimB c.toNat = true) (h6 : kindL [c] = some k) : quoteL (c :: u) = some (k, 0) := by
  rw [quoteL_head h1, if_pos h5, h6]; rfl
/-- a quote that is written is read: its first part -/
theorem next_quote {k : Int} {n : Nat} {pre E K1 : List UInt8} {d e : UInt8} (hq : quoteL (byt R') = some (k, n)) (hn : pre.length = n) (hR' : byt R' = pre ++ d :: (E ++ e :: K1)) (hp : partU d = e) (he : e ≠ 92)
    (hE : Pc (fun x => x ≠ d ∧ x ≠ e) All E) : ∃ x S R1, nextS false R' true = quoteS (place R') k (x :: S) ∧ x.2 = d ∧ partS d (partU d) 0 S = some (E, R1) ∧ byt R1 = K1 := by
  have hd : byt (R'.drop n) = d :: (E ++ e :: K1) := by rw [byt_drop, hR', List.drop_left' hn]
  obtain ⟨x, S, e1, e2, e3⟩ := src_cons hd
  obtain ⟨R1, p1, p2⟩ := part_pc he hE S e3
  refine ⟨x, S, R1, ?_, e2, by rw [hp]; exact p1, p2⟩
  unfold nextS
  rw [if_pos rfl, hq]; simp only; rw [e1]
theorem cont_mem {z : List UInt8} {x : UInt8} (h : z.contains x = false) : x ∉ z := fun hm => by rw [← List.contains_iff_mem, h] at hm; exact nomatch hm
theorem new_str {t : RTok} (h0 : term = true) (hk : t.kind = 4) (hm : t.more = []) (hr : replV t = []) (ho : t.opn = 0) (hR' : byt R' = wrR t ++ K) : NewP t term K R' := by
  subst h0
  have hw : wrR t = [39] ++ escG [39, 92] (textV t) ++ [39] := by unfold wrR; rw [if_pos hk]
  have hR2 : byt R' = [] ++ 39 :: (escG [39, 92] (textV t) ++ 39 :: K) := by rw [hR', hw]; simp
  obtain ⟨x, S, R1, e1, e2, e3, e4⟩ := next_quote (k := 4) (n := 0) (by rw [hR2]; exact quote_none (by decide) (by decide) (by decide)) rfl hR2 (by decide) (by decide)
    ((esc_pc (z := [39, 92]) (by decide) (textV t)).mono (fun x h => by have := cont_mem h; simp at this; exact ⟨this.1, this.1⟩) (fun _ h => h))
  refine ⟨⟨4, place R', 1, escG [39, 92] (textV t), [], [], 39, 0, 0⟩, R1, ?_, e4, ⟨hk, ?_, hr, hm, ho, fun h => by rw [hk] at h; omega⟩⟩
  · rw [e1]; unfold quoteS; simp only; rw [e2, e3]; rfl
  · show textV t = plR 39 (partU 39) (escG [39, 92] (textV t))
    rw [show partU 39 = 39 from by decide, plR_esc (fun c => by simp; exact Or.comm)]
theorem new_inter {t : RTok} (h0 : term = true) (hk : t.kind = 5) (hm : t.more = []) (hr : replV t = []) (ho : t.opn = 0) (hp : Pc (fun x => x ≠ 34) All (textV t)) (hR' : byt R' = wrR t ++ K) : NewP t term K R' := by
  subst h0
  have hw : wrR t = [34] ++ textV t ++ [34] := by unfold wrR; rw [if_neg (by omega), if_pos hk]
  have hR2 : byt R' = [] ++ 34 :: (textV t ++ 34 :: K) := by rw [hR', hw]; simp
  obtain ⟨x, S, R1, e1, e2, e3, e4⟩ := next_quote (k := 5) (n := 0) (by rw [hR2]; exact quote_none (by decide) (by decide) (by decide)) rfl hR2 (by decide) (by decide)
    (hp.mono (fun x h => ⟨h, h⟩) (fun _ h => h))
  refine ⟨⟨5, place R', 2, textV t, [], [], 34, 0, 0⟩, R1, ?_, e4, ⟨hk, ?_, hr, hm, ho, fun h => by rw [hk] at h; omega⟩⟩
  · rw [e1]; unfold quoteS; simp only; rw [e2, e3]; rfl
  · show textV t = inR 34 (partU 34) false (textV t)
    rw [show partU 34 = 34 from by decide, inR_back hp]
theorem new_words {t : RTok} (h0 : term = true) (hk : t.kind = 6) (hm : t.more = []) (hr : replV t = []) (ho : t.opn = 0) (hp : wordsR (textV t) = textV t) (hR' : byt R' = wrR t ++ K) : NewP t term K R' := by
  subst h0
  have hw : wrR t = [113, 119, 40] ++ escG [40, 41, 92] (textV t) ++ [41] := by unfold wrR; rw [if_neg (by omega), if_neg (by omega), if_pos hk]
  have hR2 : byt R' = [113, 119] ++ 40 :: (escG [40, 41, 92] (textV t) ++ 41 :: K) := by rw [hR', hw]; simp
  obtain ⟨x, S, R1, e1, e2, e3, e4⟩ := next_quote (k := 6) (n := 2) (by rw [hR2]; exact quote_two (by decide) (by decide) (by decide) (by decide) (by decide) (by decide)) rfl hR2 (by decide) (by decide)
    ((esc_pc (z := [40, 41, 92]) (by decide) (textV t)).mono (fun x h => by have := cont_mem h; simp at this; exact ⟨this.1, this.2.1⟩) (fun _ h => h))
  refine ⟨⟨6, place R', 3, escG [40, 41, 92] (textV t), [], [], 40, 0, 0⟩, R1, ?_, e4, ⟨hk, ?_, hr, hm, ho, fun h => by rw [hk] at h; omega⟩⟩
  · rw [e1]; unfold quoteS; simp only; rw [e2, e3]; rfl
  · show textV t = wordsR (plR 40 (partU 40) (escG [40, 41, 92] (textV t)))
    rw [show partU 40 = 41 from by decide, plR_esc (fun c => by simp; constructor <;> (rintro (h | h | h) <;> simp [h])), hp]
theorem flags_new {B : Src} {all : List UInt8} (hs : (32 : UInt8) ∉ all ∧ (123 : UInt8) ∉ all ∧ (36 : UInt8) ∉ all) (hK : Stp K) (R1 : Src) (h1 : byt R1 = (byt B).take (flagS B all) ++ K) : flagS R1 all = flagS B all ∧ (byt R1).take (flagS R1 all) = (byt B).take (flagS B all) ∧ byt (R1.drop (flagS R1 all)) = K := by
  have hc := flag_cut (B := byt B) (K := K) all 0 (fun c hc => by exact (hK c hc).elim (fun e => e ▸ hs.1) (fun h => h.elim (fun e => e ▸ hs.2.1) (fun e => e ▸ hs.2.2))) (Nat.zero_le _)
  have e : flagS R1 all = flagS B all := by unfold flagS; rw [h1]; exact hc.2.2
  have hl : ((byt B).take (flagS B all)).length = flagS B all := by rw [List.length_take]; have := hc.2.1; unfold flagS; omega
  refine ⟨e, ?_, ?_⟩
  · rw [e, h1, List.take_left' hl]
  · rw [e, byt_drop, h1, List.drop_left' hl]
theorem new_pat {B : Src} {t : RTok} (h0 : term = true) (hk : t.kind = 7) (hm : t.more = (byt B).take (flagS B flagsP)) (hr : replV t = []) (ho : t.opn = 0) (hp : Pc All (fun y => y ≠ 47) (textV t)) (hK : Stp K) (hR' : byt R' = wrR t ++ K) : NewP t term K R' := by
  subst h0
  have hw : wrR t = [109, 47] ++ escG [47] (textV t) ++ [47] ++ t.more := by unfold wrR; rw [if_neg (by omega), if_neg (by omega), if_neg (by omega), if_pos hk]
  have hR2 : byt R' = [109] ++ 47 :: (escG [47] (textV t) ++ 47 :: ((byt B).take (flagS B flagsP) ++ K)) := by rw [hR', hw, hm]; simp
  obtain ⟨b1, b2⟩ := patR_back hp
  obtain ⟨x, S, R1, e1, e2, e3, e4⟩ := next_quote (k := 7) (n := 1) (by rw [hR2]; exact quote_one (by decide) (by decide) (by decide) (by decide) (by decide)) rfl hR2 (by decide) (by decide)
    (b2.mono (fun x h => ⟨h.2, h.2⟩) (fun _ h => h))
  obtain ⟨f1, f2, f3⟩ := flags_new (B := B) (all := flagsP) (by decide) hK R1 e4
  refine ⟨⟨7, place R', 4, escG [47] (textV t), [], (byt R1).take (flagS R1 flagsP), 47, 0, 0⟩, R1.drop (flagS R1 flagsP), ?_, f3, ⟨hk, ?_, hr, by rw [hm]; exact f2.symm, ho, fun h => by rw [hk] at h; omega⟩⟩
  · rw [e1]; unfold quoteS; simp only; rw [e2, e3]; rfl
  · show textV t = patR (escG [47] (textV t))
    rw [b1]
theorem second_new {E K1 : List UInt8} (hE : Pc (fun x => x ≠ 47) All E) (R1 : Src) (h1 : byt R1 = E ++ 47 :: K1) : ∃ R3, secondS 47 R1 = some (47, E, R3) ∧ byt R3 = K1 := by
  obtain ⟨R3, p1, p2⟩ := part_pc (o := 47) (e := 47) (by decide) (hE.mono (fun x h => ⟨h, h⟩) (fun _ h => h)) R1 h1
  refine ⟨R3, ?_, p2⟩
  unfold secondS
  rw [if_pos (by decide), p1]; rfl
theorem new_subst {B : Src} {t : RTok} (h0 : term = true) (hk : t.kind = 8) (hm : t.more = (byt B).take (flagS B flagsP)) (ho : t.opn = 0) (hp : Pc All (fun y => y ≠ 47) (textV t)) (hp2 : Pc (fun x => x ≠ 34) (fun y => y ≠ 47) (replV t)) (hK : Stp K) (hR' : byt R' = wrR t ++ K) : NewP t term K R' := by
  subst h0
  have hw : wrR t = [115, 47] ++ escG [47] (textV t) ++ [47] ++ escG [47] (replV t) ++ [47] ++ t.more := by unfold wrR; rw [if_neg (by omega), if_neg (by omega), if_neg (by omega), if_neg (by omega), if_pos hk]
  have hR2 : byt R' = [115] ++ 47 :: (escG [47] (textV t) ++ 47 :: (escG [47] (replV t) ++ 47 :: ((byt B).take (flagS B flagsP) ++ K))) := by rw [hR', hw, hm]; simp
  obtain ⟨b1, b2⟩ := patR_back hp
  obtain ⟨c1, c2⟩ := patR_back hp2
  obtain ⟨x, S, R1, e1, e2, e3, e4⟩ := next_quote (k := 8) (n := 1) (by rw [hR2]; exact quote_one (by decide) (by decide) (by decide) (by decide) (by decide)) rfl hR2 (by decide) (by decide)
    (b2.mono (fun x h => ⟨h.2, h.2⟩) (fun _ h => h))
  obtain ⟨R3, s1, s2⟩ := second_new (c2.mono (fun x h => h.2) (fun _ h => h)) R1 e4
  obtain ⟨f1, f2, f3⟩ := flags_new (B := B) (all := flagsP) (by decide) hK R3 s2
  refine ⟨⟨8, place R', 5, escG [47] (textV t), escG [47] (replV t), (byt R3).take (flagS R3 flagsP), 47, 47, 0⟩, R3.drop (flagS R3 flagsP), ?_, f3, ⟨hk, ?_, ?_, by rw [hm]; exact f2.symm, ho, fun h => by rw [hk] at h; omega⟩⟩
  · rw [e1]; unfold quoteS; simp only; rw [e2, e3]
    show (match secondS 47 R1 with | none => none | some (o2, raw2, R2) => _) = _
    rw [s1]; rfl
  · show textV t = patR (escG [47] (textV t))
    rw [b1]
  · show replV t = inR 47 (partU 47) true (escG [47] (replV t))
    rw [show partU 47 = 47 from by decide, inR_back47 hp2]
theorem new_trans {B : Src} {t : RTok} (h0 : term = true) (hk : t.kind = 9) (hm : t.more = (byt B).take (flagS B flagsT)) (ho : t.opn = 0) (hK : Stp K) (hR' : byt R' = wrR t ++ K) : NewP t term K R' := by
  subst h0
  have hw : wrR t = [116, 114, 47] ++ escG [47, 92] (textV t) ++ [47] ++ escG [47, 92] (replV t) ++ [47] ++ t.more := by unfold wrR; rw [if_neg (by omega), if_neg (by omega), if_neg (by omega), if_neg (by omega), if_neg (by omega), if_pos hk]
  have hR2 : byt R' = [116, 114] ++ 47 :: (escG [47, 92] (textV t) ++ 47 :: (escG [47, 92] (replV t) ++ 47 :: ((byt B).take (flagS B flagsT) ++ K))) := by rw [hR', hw, hm]; simp
  have hz : ∀ x, ([47, 92] : List UInt8).contains x = false → x ≠ 47 := fun x h => by have := cont_mem h; simp at this; exact this.1
  have hzz : ∀ c, ([47, 92] : List UInt8).contains c = true ↔ (c = 92 ∨ c = 47 ∨ c = 47) := fun c => by simp; exact Or.comm
  obtain ⟨x, S, R1, e1, e2, e3, e4⟩ := next_quote (k := 9) (n := 2) (by rw [hR2]; exact quote_two (by decide) (by decide) (by decide) (by decide) (by decide) (by decide)) rfl hR2 (by decide) (by decide)
    ((esc_pc (z := [47, 92]) (by decide) (textV t)).mono (fun x h => ⟨hz x h, hz x h⟩) (fun _ h => h))
  obtain ⟨R3, s1, s2⟩ := second_new ((esc_pc (z := [47, 92]) (by decide) (replV t)).mono hz (fun _ h => h)) R1 e4
  obtain ⟨f1, f2, f3⟩ := flags_new (B := B) (all := flagsT) (by decide) hK R3 s2
  refine ⟨⟨9, place R', 6, escG [47, 92] (textV t), escG [47, 92] (replV t), (byt R3).take (flagS R3 flagsT), 47, 47, 0⟩, R3.drop (flagS R3 flagsT), ?_, f3, ⟨hk, ?_, ?_, by rw [hm]; exact f2.symm, ho, fun h => by rw [hk] at h; omega⟩⟩
  · rw [e1]; unfold quoteS; simp only; rw [e2, e3]
    show (match secondS 47 R1 with | none => none | some (o2, raw2, R2) => _) = _
    rw [s1]; rfl
  · show textV t = plR 47 (partU 47) (escG [47, 92] (textV t))
    rw [show partU 47 = 47 from by decide, plR_esc hzz]
  · show replV t = plR 47 (partU 47) (escG [47, 92] (replV t))
    rw [show partU 47 = 47 from by decide, plR_esc hzz]
/-- a token that was read and is written is read again -/
theorem next_new (h : Nx R term t R2) (hK : Kok t term K) (hR' : byt R' = wrR t ++ K) : NewP t term K R' := by
  cases h with
  | word n h1 h2 h3 => exact new_word h1 h2 h3 (hK.word rfl) (by rw [hR', wr_asIs (by omega)])
  | num x u h1 h2 => exact new_num h1 h2 hK.stp (by rw [hR', wr_asIs (by omega)])
  | sign n h1 h2 h3 h4 h5 => exact new_sign h1 h2 h3 h4 h5 hK.stp (hK.sig rfl) (by rw [hR', wr_asIs (by omega)])
  | var n h1 h2 => exact new_var h1 h2 hK.stp (by rw [hR', wr_asIs (by omega)])
  | str pl f raw o _ h0 h1 h2 => exact new_str h0 rfl rfl (by unfold replV; rcases h1 with rfl | rfl <;> rfl) rfl hR'
  | inter pl f raw o _ h0 h1 hd h2 h3 =>
    refine new_inter h0 rfl rfl (by unfold replV; rcases h1 with rfl | rfl <;> rfl) rfl ?_ hR'
    rcases h1 with rfl | rfl
    · exact (inR_pc h2).mono (fun _ h => h) (fun _ _ => trivial)
    · exact (inR_pc h2).mono (fun _ h => h) (fun _ _ => trivial)
  | words pl raw o _ h0 h1 => exact new_words h0 rfl rfl rfl rfl (words_idem _) hR'
  | pat pl raw o R1 h0 h1 h2 => exact new_pat h0 rfl rfl rfl rfl (patR_pc h1) hK.stp hR'
  | subst pl raw raw2 o o2 R1 h0 hd h1 h2 h3 => exact new_subst h0 rfl rfl rfl (patR_pc h1) ((inR_pc h2).mono (fun _ h => h) (fun _ h => h rfl)) hK.stp hR'
  | trans pl raw raw2 o o2 R1 h0 h1 => exact new_trans h0 rfl rfl rfl hK.stp hR'
end Go.Proofs.YthmopindibdhnaaDoor.G.Bk
namespace Go.Proofs.YthmopindibdhnaaDoor.G.Bk
open Go.RowKit Go.Shelf
def Sms : List RTok → List RTok → Prop
  | [], [] => True
  | t :: ts, u :: us => Sm t u ∧ Sms ts us
  | _, _ => False
theorem Sm.sg {t u : RTok} (h : Sm t u) (l : List UInt8) : isSg u l = isSg t l := by
  unfold isSg
  rw [← h.kind]
  by_cases hk : t.kind = 3
  · rw [← h.raw (by omega)]
  · have : (t.kind == 3) = false := by simpa using hk
    rw [this]; rfl
theorem Sm.ends {t u : RTok} (h : Sm t u) : endsS u = endsS t := by
  unfold endsS
  rw [h.sg, h.sg, h.sg, ← h.opn]
theorem Sms.beg : ∀ {rt rt' : List RTok}, Sms rt rt' → begS rt' = begS rt
  | [], [], _ => rfl
  | _ :: _, _ :: _, h => h.1.ends
  | [], _ :: _, h => h.elim
  | _ :: _, [], h => h.elim
theorem Sms.len : ∀ {rt rt' : List RTok}, Sms rt rt' → rt.length = rt'.length
  | [], [], _ => rfl
  | _ :: _, _ :: _, h => by rw [List.length_cons, List.length_cons, h.2.len]
  | [], _ :: _, h => h.elim
  | _ :: _, [], h => h.elim
theorem openS_sm : ∀ {rt rt' : List RTok}, Sms rt rt' → ∀ (tms : List Bool) (n : Bool), openS rt' tms n = openS rt tms n
  | [], [], _, _, _ => rfl
  | [x], [x'], h, tms, n => by
    unfold openS
    simp only [h.1.sg, h.1.ends, ← h.1.kind, ← h.1.opn]
  | x :: y :: ys, x' :: y' :: ys', h, tms, n => by
    unfold openS
    simp only [h.1.sg, h.1.ends, ← h.1.kind, ← h.1.opn, ← h.2.1.kind, h.2.2.beg]
  | [], _ :: _, h, _, _ => h.elim
  | _ :: _, [], h, _, _ => h.elim
  | [_], _ :: _ :: _, h, _, _ => h.2.elim
  | _ :: _ :: _, [_], h, _, _ => h.2.elim
/-- a token that stands without a blank behind another one -/
def tightR (t u : RTok) (term : Bool) : Bool := (isSg u [123] && u.opn == 2) || (term && (isSg t [36] || isSg t [64] || ((isSg t [37] || isSg t [38]) && (wrR u).head? == some 36)))
def sepR (t : RTok) (rest : List RTok) (term : Bool) : List UInt8 := match rest with
  | [] => []
  | u :: _ => if tightR t u term = true then [] else [32]
def afterR (t : RTok) (term : Bool) : Bool := behindB t.kind t.raw t.opn term
def joinR : Bool → List RTok → List UInt8
  | _, [] => []
  | term, t :: rest => wrR t ++ (sepR t rest term ++ joinR (afterR t term) rest)
def nearS (R : Src) : Bool := decide ((skipS false R).length = R.length)
/-- the tokens that a scan comes to -/
inductive Run : Src → Bool → List RTok → List Bool → List Nat → List RTok → Prop
  | done {R : Src} {term : Bool} {rt : List RTok} {tms : List Bool} {ops : List Nat} : skipS false R = [] → Run R term rt tms ops []
  | step {R : Src} {term : Bool} {rt : List RTok} {tms : List Bool} {ops : List Nat} {t : RTok} {R2 : Src} {ts : List RTok} : skipS false R ≠ [] → nextS false (skipS false R) term = some (t, R2) →
      Run R2 (afterR (braceS t rt tms (nearS R) ops).1 term) ((braceS t rt tms (nearS R) ops).1 :: rt) (term :: tms) (braceS t rt tms (nearS R) ops).2 ts → Run R term rt tms ops ((braceS t rt tms (nearS R) ops).1 :: ts)
theorem brace_raw (t : RTok) (rt : List RTok) (tms : List Bool) (near : Bool) (ops : List Nat) : (braceS t rt tms near ops).1.raw = t.raw ∧ (braceS t rt tms near ops).1.kind = t.kind ∧ textV (braceS t rt tms near ops).1 = textV t ∧ replV (braceS t rt tms near ops).1 = replV t ∧ (braceS t rt tms near ops).1.more = t.more ∧ wrR (braceS t rt tms near ops).1 = wrR t ∧ ∀ l, isSg (braceS t rt tms near ops).1 l = isSg t l := by
  unfold braceS
  split
  · exact ⟨rfl, rfl, rfl, rfl, rfl, rfl, fun _ => rfl⟩
  · split
    · exact ⟨rfl, rfl, rfl, rfl, rfl, rfl, fun _ => rfl⟩
    · exact ⟨rfl, rfl, rfl, rfl, rfl, rfl, fun _ => rfl⟩
theorem run_of_scan : ∀ (f : Nat) (R : Src) (term : Bool) (rt : List RTok) (tms : List Bool) (ops : List Nat) (rt2 : List RTok) (tms2 : List Bool), scanS false f R term rt tms ops = some (rt2, tms2) → ∃ ts, Run R term rt tms ops ts ∧ rt2 = ts.reverse ++ rt
  | 0, R, term, rt, tms, ops, rt2, tms2, h => nomatch h
  | f + 1, R, term, rt, tms, ops, rt2, tms2, h => by
    rw [scanS] at h
    by_cases h0 : skipS false R = []
    · rw [if_pos h0] at h
      simp only [Option.some.injEq, Prod.mk.injEq] at h
      exact ⟨[], .done h0, h.1.symm⟩
    · rw [if_neg h0] at h
      cases e : nextS false (skipS false R) term with
      | none => rw [e] at h; exact nomatch h
      | some r =>
        obtain ⟨t, R2⟩ := r
        rw [e] at h
        simp only at h
        have hb := (brace_raw t rt tms (nearS R) ops).1
        obtain ⟨ts, h1, h2⟩ := run_of_scan f R2 _ _ _ _ rt2 tms2 h
        refine ⟨(braceS t rt tms (nearS R) ops).1 :: ts, .step h0 e ?_, ?_⟩
        · unfold afterR; rw [hb]; exact h1
        · rw [h2]; simp [nearS]
theorem skip_len : ∀ (b : Bool) (R : Src), (skipS b R).length ≤ R.length
  | _, [] => by simp [skipS]
  | true, x :: t => by
    rw [skipS]
    split
    · exact Nat.le_succ_of_le (skip_len false t)
    · exact Nat.le_succ_of_le (skip_len true t)
  | false, x :: t => by
    rw [skipS]
    split
    · exact Nat.le_succ_of_le (skip_len false t)
    · split
      · exact Nat.le_succ_of_le (skip_len true t)
      · exact Nat.le_refl _
theorem skip_mem : ∀ (b : Bool) (R : Src) (c : UInt8), c ∈ byt (skipS b R) → c ∈ byt R
  | _, [], c, h => by simp [skipS] at h
  | true, x :: t, c, h => by
    rw [skipS] at h
    rw [byt_cons]
    split at h
    · exact List.mem_cons_of_mem _ (skip_mem false t c h)
    · exact List.mem_cons_of_mem _ (skip_mem true t c h)
  | false, x :: t, c, h => by
    rw [skipS] at h
    split at h
    · rw [byt_cons]; exact List.mem_cons_of_mem _ (skip_mem false t c h)
    · split at h
      · rw [byt_cons]; exact List.mem_cons_of_mem _ (skip_mem true t c h)
      · exact h
theorem skip_head : ∀ (b : Bool) (R : Src) (x : Nat × UInt8) (u : Src), skipS b R = x :: u → blkB x.2.toNat = false ∧ x.2 ≠ 35
  | _, [], x, u, h => by simp [skipS] at h
  | true, y :: t, x, u, h => by
    rw [skipS] at h
    split at h
    · exact skip_head false t x u h
    · exact skip_head true t x u h
  | false, y :: t, x, u, h => by
    rw [skipS] at h
    by_cases hb : blkB y.2.toNat = true
    · rw [if_pos hb] at h; exact skip_head false t x u h
    · rw [if_neg hb] at h
      by_cases hc : y.2 = 35
      · rw [if_pos hc] at h; exact skip_head true t x u h
      · rw [if_neg hc] at h
        injection h with h1 h2
        rw [← h1]; exact ⟨by simpa using hb, hc⟩
theorem scan_of_run {R : Src} {term : Bool} {rt : List RTok} {tms : List Bool} {ops : List Nat} {ts : List RTok} (h : Run R term rt tms ops ts) : ∀ f, R.length < f → ∃ tms2, scanS false f R term rt tms ops = some (ts.reverse ++ rt, tms2) := by
  induction h with
  | done h0 =>
    intro f hf
    cases f with
    | zero => omega
    | succ f => exact ⟨_, by rw [scanS, if_pos h0]; rfl⟩
  | @step R term rt tms ops t R2 ts h0 e hr ih =>
    intro f hf
    cases f with
    | zero => omega
    | succ f =>
      have hl := nx_len (next_nx e)
      have hs := skip_len false R
      obtain ⟨tms2, h2⟩ := ih f (by omega)
      refine ⟨tms2, ?_⟩
      rw [scanS, if_neg h0, e]
      simp only
      have hb := (brace_raw t rt tms (nearS R) ops).1
      unfold afterR at h2
      rw [hb] at h2
      unfold nearS at h2 ⊢
      rw [h2]; simp
theorem run_len {R : Src} {term : Bool} {rt : List RTok} {tms : List Bool} {ops : List Nat} {ts : List RTok} (h : Run R term rt tms ops ts) : (joinR term ts).length ≤ 3 * R.length := by
  induction h with
  | done h0 => exact Nat.zero_le _
  | @step R term rt tms ops t R2 ts h0 e hr ih =>
    have hl := nx_len (next_nx e)
    have hs := skip_len false R
    have hb := (brace_raw t rt tms (nearS R) ops).2.2.2.2.2.1
    have hsep : (sepR (braceS t rt tms (nearS R) ops).1 ts term).length ≤ 1 := by
      unfold sepR
      cases ts with
      | nil => simp
      | cons u us => simp only; split <;> simp
    rw [joinR, List.length_append, List.length_append, hb]
    omega
theorem run_own {R : Src} {term : Bool} {rt : List RTok} {tms : List Bool} {ops : List Nat} {ts : List RTok} (h : Run R term rt tms ops ts) : Own (byt R) → Own (joinR term ts) ∧ ∀ t ∈ ts, Own t.raw := by
  induction h with
  | done h0 => exact fun _ => ⟨(fun c hc => nomatch hc), (fun c hc => nomatch hc)⟩
  | @step R term rt tms ops t R2 ts h0 e hr ih =>
    intro hR
    obtain ⟨o1, o2, o3⟩ := nx_own (next_nx e) (fun c hc => hR c (skip_mem false R c hc))
    have hb := brace_raw t rt tms (nearS R) ops
    obtain ⟨i1, i2⟩ := ih o2
    have hsep : Own (sepR (braceS t rt tms (nearS R) ops).1 ts term) := by
      unfold sepR
      cases ts with
      | nil => exact fun c hc => nomatch hc
      | cons u us =>
        simp only
        split
        · exact fun c hc => nomatch hc
        · exact own_lit (by decide)
    refine ⟨?_, fun u hu => ?_⟩
    · rw [joinR, hb.2.2.2.2.2.1]; exact o1.app (hsep.app i1)
    · rw [List.mem_cons] at hu
      rcases hu with rfl | hu
      · rw [hb.1]; exact o3
      · exact i2 u hu
section
variable {R R2 R' : Src} {term : Bool} {t : RTok} {K : List UInt8}
/-- a token's first byte -/
theorem nx_head (h : Nx R term t R2) (hR : ∀ x u, R = x :: u → blkB x.2.toNat = false ∧ x.2 ≠ 35) : ∃ c v, wrR t = c :: v ∧ blkB c.toNat = false ∧ c ≠ 35 := by
  have asis : ∀ k n, k ≤ 3 → 1 ≤ n → 1 ≤ R.length → ∃ c v, wrR (asIs k n R).1 = c :: v ∧ blkB c.toNat = false ∧ c ≠ 35 := fun k n hk h1 h2 => by
    rw [wr_asIs hk]
    cases R with
    | nil => simp at h2
    | cons x u =>
      obtain ⟨m, rfl⟩ : ∃ m, n = m + 1 := ⟨n - 1, by omega⟩
      rw [byt_cons, List.take_succ_cons]
      exact ⟨_, _, rfl, hR x u rfl⟩
  cases h with
  | word n h1 h2 h3 => exact asis 0 _ (by omega) h2 (by have := wordN_le (byt R); rw [byt_len] at this; omega)
  | num x u h1 h2 =>
    have := digN_cut (B := byt R) (K := []) (by rw [h1, byt_len]; simp) (fun c hc => nomatch hc)
    exact asis 1 _ (by omega) this.2.1 (by rw [h1]; simp)
  | sign n h1 h2 h3 => exact asis 3 _ (by omega) h2 (by omega)
  | var n h1 h2 => exact asis 2 _ (by omega) (by omega) (by have := varS_len h2; rw [byt_len] at this; omega)
  | str pl f raw o _ h0 h1 h2 => exact ⟨39, _, rfl, by decide, by decide⟩
  | inter pl f raw o _ h0 h1 hd h2 h3 => exact ⟨34, _, rfl, by decide, by decide⟩
  | words pl raw o _ h0 h1 => exact ⟨113, _, rfl, by decide, by decide⟩
  | pat pl raw o R1 h0 h1 h2 => exact ⟨109, _, rfl, by decide, by decide⟩
  | subst pl raw raw2 o o2 R1 h0 hd h1 h2 h3 => exact ⟨115, _, rfl, by decide, by decide⟩
  | trans pl raw raw2 o o2 R1 h0 h1 => exact ⟨116, _, rfl, by decide, by decide⟩
/-- a sign's text is what was read -/
theorem nx_sg (h : Nx R term t R2) (l : List UInt8) (hs : isSg t l = true) : wrR t = l := by
  unfold isSg at hs
  simp only [Bool.and_eq_true, beq_iff_eq] at hs
  obtain ⟨hk, hr⟩ := hs
  cases h with
  | sign n h1 h2 h3 => rw [wr_asIs (by omega)]; exact hr
  | word n h1 h2 h3 => exact absurd hk (show (0 : Nat) ≠ 3 by omega)
  | num x u h1 h2 => exact absurd hk (show (1 : Nat) ≠ 3 by omega)
  | var n h1 h2 => exact absurd hk (show (2 : Nat) ≠ 3 by omega)
  | str pl f raw o _ h0 h1 h2 => exact absurd hk (show (4 : Nat) ≠ 3 by omega)
  | inter pl f raw o _ h0 h1 hd h2 h3 => exact absurd hk (show (5 : Nat) ≠ 3 by omega)
  | words pl raw o _ h0 h1 => exact absurd hk (show (6 : Nat) ≠ 3 by omega)
  | pat pl raw o R1 h0 h1 h2 => exact absurd hk (show (7 : Nat) ≠ 3 by omega)
  | subst pl raw raw2 o o2 R1 h0 hd h1 h2 h3 => exact absurd hk (show (8 : Nat) ≠ 3 by omega)
  | trans pl raw raw2 o o2 R1 h0 h1 => exact absurd hk (show (9 : Nat) ≠ 3 by omega)
theorem nx_kind0 (h : Nx R term t R2) (hk : t.kind = 3) (hr : t.raw = [36] ∨ t.raw = [64]) : term = true ∧ ((byt R)[1]? = some 36 ∨ (byt R)[1]? = some 123) ∧ R2 = R.drop 1 := by
  cases h with
  | sign n h1 h2 h3 h4 h5 =>
    rcases h4 with h4 | ⟨a, b, c⟩
    · exfalso
      have hh := sign_heads _ h4
      rcases hr with e | e
      · exact hh.1 (by show ((asIs 3 n R).1.raw)[0]? = _; rw [e]; rfl)
      · exact hh.2 (by show ((asIs 3 n R).1.raw)[0]? = _; rw [e]; rfl)
    · exact ⟨a, b, by rw [c]⟩
  | word n h1 h2 h3 => exact absurd hk (show (0 : Nat) ≠ 3 by omega)
  | num x u h1 h2 => exact absurd hk (show (1 : Nat) ≠ 3 by omega)
  | var n h1 h2 => exact absurd hk (show (2 : Nat) ≠ 3 by omega)
  | str pl f raw o _ h0 h1 h2 => exact absurd hk (show (4 : Nat) ≠ 3 by omega)
  | inter pl f raw o _ h0 h1 hd h2 h3 => exact absurd hk (show (5 : Nat) ≠ 3 by omega)
  | words pl raw o _ h0 h1 => exact absurd hk (show (6 : Nat) ≠ 3 by omega)
  | pat pl raw o R1 h0 h1 h2 => exact absurd hk (show (7 : Nat) ≠ 3 by omega)
  | subst pl raw raw2 o o2 R1 h0 hd h1 h2 h3 => exact absurd hk (show (8 : Nat) ≠ 3 by omega)
  | trans pl raw raw2 o o2 R1 h0 h1 => exact absurd hk (show (9 : Nat) ≠ 3 by omega)
/-- what begins with `$` or `{` is read as it is -/
theorem next_sig {c : UInt8} {u : List UInt8} (hc : c = 36 ∨ c = 123) (hR : byt R = c :: u) (h : nextS false R true = some (t, R2)) : ∃ v, wrR t = c :: v := by
  have hc2 : alphaB c.toNat = false ∧ (if delimB c.toNat = true then (kindL [c]).map fun k => (k, 0) else (none : Option (Int × Nat))) = none ∧ c ≠ 60 := by rcases hc with rfl | rfl <;> decide
  have hq : quoteL (byt R) = none := by rw [hR, quoteL_head hc2.1]; exact hc2.2.1
  have hh : hereS (byt R) = none := by rw [hR]; exact hereS_head hc2.2.2
  have asis : ∀ k n, k ≤ 3 → 1 ≤ n → ∃ v, wrR (asIs k n R).1 = c :: v := fun k n hk h1 => by
    rw [wr_asIs hk, hR]
    obtain ⟨m, rfl⟩ : ∃ m, n = m + 1 := ⟨n - 1, by omega⟩
    exact ⟨_, List.take_succ_cons⟩
  unfold nextS at h
  rw [if_pos rfl, hq] at h
  simp only at h
  rw [hh] at h
  simp only at h
  have plain : plainS R true = some (t, R2) → ∃ v, wrR t = c :: v := fun h => by
    unfold plainS at h
    cases R with
    | nil => exact nomatch h
    | cons x v =>
      simp only at h
      split at h
      · rename_i ha
        split at h
        · simp only [Option.some.injEq, Prod.ext_iff] at h
          obtain ⟨rfl, _⟩ := h
          refine asis 0 _ (by omega) ?_
          rw [byt_cons, wordN_on ha]
          exact (wordR_le _ 1 (by simp)).2
        · exact nomatch h
      · split at h
        · simp only [Option.some.injEq, Prod.ext_iff] at h
          obtain ⟨rfl, _⟩ := h
          exact asis 1 _ (by omega) (digN_cut (B := byt (x :: v)) (K := []) (by simp) (fun c hc => nomatch hc)).2.1
        · split at h
          · rename_i hs
            simp only [Option.some.injEq, Prod.ext_iff] at h
            obtain ⟨rfl, _⟩ := h
            exact asis 3 _ (by omega) hs
          · exact nomatch h
  cases hv : varS false (byt R) with
  | none => rw [hv] at h; exact nomatch h
  | some n =>
    rw [hv] at h
    cases n with
    | zero => exact plain h
    | succ n =>
      simp only [Option.some.injEq, Prod.ext_iff] at h
      obtain ⟨rfl, _⟩ := h
      exact asis 2 _ (by omega) (by omega)
end
end Go.Proofs.YthmopindibdhnaaDoor.G.Bk
