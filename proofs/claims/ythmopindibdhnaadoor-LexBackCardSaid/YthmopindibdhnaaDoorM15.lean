/- GWd GHw GLines -/
import Derived.Test.YthmopindibdhnaaDoorM06
import Derived.Test.YthmopindibdhnaaDoorM14
namespace Go.Proofs.YthmopindibdhnaaDoor.G
open Go.RowKit Go.Shelf
def stopB (q : UInt8) : Bool := !(alphaB q.toNat || digB q.toNat) && q != 58
theorem wordR_app {q : UInt8} (hq : stopB q = true) (a b : List UInt8) : ∀ f g n, n ≤ a.length → a.length ≤ n + f → (a ++ q :: b).length ≤ n + g → wordR (a ++ q :: b) g n = wordR a f n := by
  have hq1 : (alphaB q.toNat || digB q.toNat) = false := by unfold stopB at hq; revert hq; cases (alphaB q.toNat || digB q.toNat) <;> simp
  have hq2 : q ≠ 58 := by unfold stopB at hq; intro e; rw [e] at hq; exact absurd hq (by decide)
  have hqa : alphaB q.toNat = false := by revert hq1; cases alphaB q.toNat <;> simp
  intro f
  induction f using Nat.strongRecOn with
  | ind f ih =>
    intro g n hn hf hg
    rw [List.length_append, List.length_cons] at hg
    have hX : ∀ i, (a ++ q :: b)[i]? = if i < a.length then a[i]? else if i = a.length then some q else b[i - (a.length + 1)]? := fun i => by
      by_cases h1 : i < a.length
      · rw [if_pos h1, List.getElem?_append_left h1]
      · rw [if_neg h1, List.getElem?_append_right (by omega)]
        by_cases h2 : i = a.length
        · rw [if_pos h2, h2]; simp
        · rw [if_neg h2]
          obtain ⟨k, hk⟩ : ∃ k, i - a.length = k + 1 := ⟨i - a.length - 1, by omega⟩
          rw [hk, List.getElem?_cons_succ]
          congr 1; omega
    have hsep : sepAt (a ++ q :: b) n = sepAt a n := by
      rw [Bool.eq_iff_iff, sep_as, sep_as, hX, hX, hX]
      by_cases h1 : n < a.length
      · rw [if_pos h1]
        by_cases h2 : n + 1 < a.length
        · rw [if_pos h2]
          by_cases h3 : n + 2 < a.length
          · rw [if_pos h3]
          · rw [if_neg h3, List.getElem?_eq_none (by omega : a.length ≤ n + 2), if_pos (by omega)]
            simp [hqa]
        · rw [if_neg h2, List.getElem?_eq_none (by omega : a.length ≤ n + 1), if_pos (by omega)]
          simp [hq2]
      · rw [if_neg h1, List.getElem?_eq_none (by omega : a.length ≤ n), if_pos (by omega)]
        simp [hq2]
    cases g with
    | zero => omega
    | succ g =>
      by_cases h1 : n < a.length
      · cases f with
        | zero => omega
        | succ f =>
          rw [wordR, wordR, hX, if_pos h1, List.getElem?_eq_getElem h1, hsep]
          simp only
          split
          · exact ih f (by omega) g (n + 1) (by omega) (by omega) (by rw [List.length_append, List.length_cons]; omega)
          · split
            · rename_i hs
              have := sep_len hs
              exact ih f (by omega) g (n + 3) (by omega) (by omega) (by rw [List.length_append, List.length_cons]; omega)
            · rfl
      · have hse : sepAt a n = false := sep_short (by omega)
        rw [wordR_end (l := a) (by omega), wordR, hX, if_neg h1, if_pos (by omega), hsep, hse]
        simp [hq1]
theorem wordN_app {q : UInt8} (hq : stopB q = true) (a b : List UInt8) : wordN (a ++ q :: b) = wordN a := by
  cases a with
  | nil =>
    have hqa : alphaB q.toNat = false := by unfold stopB at hq; revert hq; cases alphaB q.toNat <;> simp
    rw [List.nil_append]
    unfold wordN
    simp [hqa]
  | cons x t =>
    unfold wordN
    simp only [List.cons_append, List.getElem?_cons_zero]
    split
    · exact wordR_app hq (x :: t) b _ _ 1 (by simp) (Nat.le_add_left _ _) (Nat.le_add_left _ _)
    · rfl
theorem wordR_take (l : List UInt8) : ∀ f n, n ≤ l.length → ∀ g m, m = wordR l f n → (l.take m).length ≤ n + g → wordR (l.take m) g n = m := by
  intro f
  induction f using Nat.strongRecOn with
  | ind f ih =>
    intro n hn g m hm hg
    have hle := wordR_le (l := l) f n hn
    rw [← hm] at hle
    have hlen : (l.take m).length = m := by rw [List.length_take]; omega
    rcases Nat.lt_or_eq_of_le hle.2 with hlt | heq
    · cases f with
      | zero => rw [wordR] at hm; omega
      | succ f =>
        have hnl : n < l.length := by omega
        rw [wordR, List.getElem?_eq_getElem hnl] at hm
        simp only at hm
        have hx : (l.take m)[n]? = some l[n] := by rw [List.getElem?_take_of_lt hlt, List.getElem?_eq_getElem hnl]
        rw [hlen] at hg
        cases g with
        | zero => omega
        | succ g =>
          rw [wordR, hx]
          simp only
          split at hm
          · rename_i ha
            rw [if_pos ha]
            exact ih f (by omega) (n + 1) (by omega) g m hm (by rw [hlen]; omega)
          · rename_i ha
            split at hm
            · rename_i hs
              have h3 := sep_len hs
              have hle3 := wordR_le (l := l) f (n + 3) (by omega)
              rw [← hm] at hle3
              have hs2 : sepAt (l.take m) n = true := by
                obtain ⟨e0, e1, e, e2, e3⟩ := (sep_as l n).1 hs
                exact (sep_as _ n).2 ⟨by rw [List.getElem?_take_of_lt (by omega)]; exact e0, by rw [List.getElem?_take_of_lt (by omega)]; exact e1, e, by rw [List.getElem?_take_of_lt (by omega)]; exact e2, e3⟩
              rw [if_neg ha, if_pos hs2]
              exact ih f (by omega) (n + 3) (by omega) g m hm (by rw [hlen]; omega)
            · omega
    · rw [wordR_end (by omega)]; exact heq
theorem wordN_take (l : List UInt8) : wordN (l.take (wordN l)) = wordN l := by
  by_cases h0 : wordN l = 0
  · rw [h0]; rfl
  · have hl : 0 < l.length := by have := wordN_le l; omega
    cases ha : alphaB l[0].toNat with
    | false => exact absurd (wordN_no hl ha) h0
    | true =>
      have hw := wordN_yes hl ha
      obtain ⟨m, hm⟩ : ∃ m, m = wordN l := ⟨_, rfl⟩
      rw [← hm] at h0 hw ⊢
      have hle : m ≤ l.length := by rw [hm]; exact wordN_le l
      have hlen : (l.take m).length = m := by rw [List.length_take]; omega
      have h1 : 0 < (l.take m).length := by omega
      have hx : (l.take m)[0] = l[0] := by rw [List.getElem_take]
      rw [wordN_yes h1 (by rw [hx]; exact ha)]
      exact wordR_take l _ 1 hl _ m hw (by omega)
theorem isW_take (l : List UInt8) : isW (l.take (wordN l)) = (decide (0 < wordN l) && decide (wordN l ≤ 12)) := by
  have hle := wordN_le l
  have hlen : (l.take (wordN l)).length = wordN l := by rw [List.length_take]; omega
  unfold isW
  rw [hlen, wordN_take]
  by_cases h0 : wordN l = 0
  · rw [h0]; rfl
  · have : (l.take (wordN l)).isEmpty = false := by
      cases h : l.take (wordN l) with
      | nil => rw [h] at hlen; exact absurd hlen.symm h0
      | cons => rfl
    rw [this]
    simp [Nat.pos_of_ne_zero h0]
/-- what a heredoc could be called, and the mark on both sides -/
def hwL (l : List UInt8) : List UInt8 × List UInt8 :=
  if l[0]? = some 39 then (match splitC 39 (l.drop 1) with | none => ([], []) | some p => (p.1, [39]))
  else if l[0]? = some 34 then (match splitC 34 (l.drop 1) with | none => ([], []) | some p => (p.1, [34]))
  else (l.take (wordN l), [])
theorem splitC_none {c : UInt8} : ∀ {l : List UInt8}, splitC c l = none → c ∉ l
  | [], _ => by simp
  | x :: t, h => by
    rw [splitC] at h
    split at h
    · cases h
    · rename_i hx
      cases hs : splitC c t with
      | none => have := splitC_none hs; simp [this]; exact fun e => hx e.symm
      | some p => rw [hs] at h; cases h
theorem here_quote (q : UInt8) (hq : q = 39 ∨ q = 34) (l : List UInt8) (h0 : l[0]? = some q) :
    (∀ wd, (splitC q (l.drop 1)).map Prod.fst = some wd → isW wd = true → hereL l = some (2 + wd.length, wd, q == 34)) ∧
    ((∀ wd, (splitC q (l.drop 1)).map Prod.fst = some wd → isW wd = false) → hereL l = none) := by
  have hs : stopB q = true := by rcases hq with rfl | rfl <;> decide
  have hl : 0 < l.length := (List.getElem?_eq_some_iff.1 h0).1
  have hw0 : wordN l = 0 := by
    have hx : l[0] = q := (List.getElem?_eq_some_iff.1 h0).2
    exact wordN_no hl (by rw [hx]; rcases hq with rfl | rfl <;> decide)
  have hH : hereL l = if 0 < wordN (l.drop 1) ∧ wordN (l.drop 1) ≤ 12 ∧ (l.drop 1)[wordN (l.drop 1)]? = some q then some (2 + wordN (l.drop 1), (l.drop 1).take (wordN (l.drop 1)), q == 34) else none := by
    unfold hereL
    rw [if_neg (by omega), h0]
    simp only [hq, true_and]
  generalize l.drop 1 = t at *
  cases hsp : splitC q t with
  | none =>
    have hno := splitC_none hsp
    refine ⟨fun wd h => (by simp at h), fun _ => ?_⟩
    rw [hH, if_neg]
    rintro ⟨_, _, h3⟩
    exact hno (List.mem_of_getElem? h3)
  | some p =>
    obtain ⟨a, b⟩ := p
    obtain ⟨rfl, hna⟩ := splitC_some hsp
    have hwa := wordN_app hs a b
    have hla := wordN_le a
    rw [hH, hwa]
    simp only [Option.map_some, Option.some.injEq, forall_eq']
    refine ⟨fun hW => ?_, fun hW => ?_⟩
    · unfold isW at hW
      simp only [Bool.and_eq_true, Bool.not_eq_true', decide_eq_true_eq, beq_iff_eq] at hW
      obtain ⟨e1, e2, e3⟩ := hW
      have hpos : 0 < a.length := by cases a with | nil => cases e1 | cons => simp
      rw [if_pos ⟨by omega, by omega, by rw [e3, List.getElem?_append_right (Nat.le_refl _)]; simp⟩, e3, List.take_left]
    · rw [if_neg]
      rintro ⟨h1, h2, h3⟩
      have hal : wordN a = a.length := by
        rcases Nat.lt_or_eq_of_le hla with h4 | h4
        · rw [List.getElem?_append_left h4] at h3
          exact absurd (List.mem_of_getElem? h3) hna
        · exact h4
      have : isW a = true := by
        unfold isW
        cases a with
        | nil => simp at hal h1; omega
        | cons x t => simp only [List.isEmpty_cons, Bool.not_false, Bool.true_and, Bool.and_eq_true, decide_eq_true_eq, beq_iff_eq]; exact ⟨by omega, hal⟩
      rw [this] at hW; cases hW
/-- a heredoc begins just where its name is a word -/
theorem here_hw (l : List UInt8) : hereL l = if isW (hwL l).1 = true then some (2 * (hwL l).2.length + (hwL l).1.length, (hwL l).1, (hwL l).2 != [39]) else none := by
  unfold hwL
  by_cases h39 : l[0]? = some 39
  · rw [if_pos h39]
    obtain ⟨h1, h2⟩ := here_quote 39 (.inl rfl) l h39
    cases hs : splitC 39 (l.drop 1) with
    | none => rw [hs] at h2; rw [h2 (fun wd h => by cases h)]; rfl
    | some p =>
      rw [hs] at h1 h2
      cases hW : isW p.1 with
      | true => rw [h1 p.1 rfl hW]; simp
      | false => rw [h2 (fun wd h => by cases h; exact hW)]; simp
  · rw [if_neg h39]
    by_cases h34 : l[0]? = some 34
    · rw [if_pos h34]
      obtain ⟨h1, h2⟩ := here_quote 34 (.inr rfl) l h34
      cases hs : splitC 34 (l.drop 1) with
      | none => rw [hs] at h2; rw [h2 (fun wd h => by cases h)]; rfl
      | some p =>
        rw [hs] at h1 h2
        cases hW : isW p.1 with
        | true => rw [h1 p.1 rfl hW]; simp
        | false => rw [h2 (fun wd h => by cases h; exact hW)]; simp
    · rw [if_neg h34]
      simp only [isW_take]
      have hle := wordN_le l
      have hlen : (l.take (wordN l)).length = wordN l := by rw [List.length_take]; omega
      unfold hereL
      by_cases h0 : 0 < wordN l
      · rw [if_pos h0]
        by_cases h12 : wordN l ≤ 12
        · simp [h0, h12, hlen]
        · simp [h12]
      · rw [if_neg h0]
        cases e : l[0]? with
        | none => simp [h0]
        | some q =>
          rw [e] at h39 h34
          have : ¬ (q = 39 ∨ q = 34) := fun h => h.elim (fun e => h39 (by rw [e])) (fun e => h34 (by rw [e]))
          simp [h0, this]
end Go.Proofs.YthmopindibdhnaaDoor.G
namespace Go.Proofs.YthmopindibdhnaaDoor.G
open Go.RowKit Go.Shelf Go.Maps
theorem pre_one (q : UInt8) (l : List UInt8) : Lib.hasPrefix l [q] = decide (l[0]? = some q) := by
  unfold Lib.hasPrefix
  cases l with
  | nil => rfl
  | cons x t =>
    simp only [List.isPrefixOf, List.getElem?_cons_zero, Option.some.injEq]
    rw [Bool.and_true]
    by_cases h : x = q
    · rw [h]; simp
    · have h2 : (q == x) = false := by simpa using fun e => h e.symm
      rw [h2]; simp [h]
theorem trim_one (q : UInt8) (l : List UInt8) (h : l[0]? = some q) : Lib.trimPrefix l [q] = l.drop 1 := by
  unfold Lib.trimPrefix
  rw [pre_one]
  simp [h]
set_option maxRecDepth 100000 in
set_option maxHeartbeats 1000000 in
theorem hw_p (s : ByteArray) (hs : s.size ≤ 1000000) (w : World) : Calls Tryd.prog 53 #[.string s] w fun e w' => e = .returned (.tuple #[.string ⟨(hwL s.data.toList).1.toArray⟩, .string ⟨(hwL s.data.toList).2.toArray⟩]) ∧ Gr w w' := by
  obtain ⟨l, hl⟩ : ∃ l, l = s.data.toList := ⟨_, rfl⟩
  have HC := Lib.hid (fun p w => cutp_any s p w)
  have HW := Lib.hid (fun w => word_p s (by omega) w)
  have hlen : l.length ≤ 1000000 := by rw [hl, sizeL]; exact hs
  have hwl := wordN_le l
  have hwl2 : wordN l ≤ s.size := by rw [hl, sizeL] at hwl; rw [hl]; exact hwl
  have HTk : Hid (s.extract 0 (wordN l) = ⟨(l.take (wordN l)).toArray⟩) := Lib.hid (baE (by rw [extractE, ← hl]; simp))
  rw [← hl] at HW HC ⊢
  obtain ⟨R, hR⟩ : ∃ R, R = hwL l := ⟨_, rfl⟩
  rw [← hR]
  have HR := Lib.hid hR
  have bw : (wordN l : Int) ≤ (s.size : Int) := by omega
  generalize hn : wordN l = n at *
  have Hn := Lib.hid hn
  have Hlen := Lib.hid hlen
  clear hl hR hwl hn hlen
  go_enter Tryd.func53, Tryd.ntmps53
  go_wp2_with fail
  generalize hW1 : w.alloc (.cells #[.string ⟨#[39]⟩, .string ⟨#[34]⟩] 9) = W1
  have G1 := Lib.hid (show Gr w W1 by rw [← hW1]; exact (Gr.refl w).alloc _)
  have K1 := Lib.hid (show W1.heap[w.heap.size]? = some (.cells #[.string ⟨#[39]⟩, .string ⟨#[34]⟩] 9 (0, 0)) by rw [← hW1]; exact heap_alloc_new w _)
  clear hW1
  go_loopw [13] (fun v wr => ∃ i : Nat, v = .int .i64 (i : Int) ∧ i ≤ 2 ∧ Hid ((1 ≤ i → l[0]? ≠ some 39) ∧ (2 ≤ i → l[0]? ≠ some 34)) ∧ Gr W1 wr) (fun v _ => leftTo 2 v)
  case atStart => exact ⟨0, rfl, by omega, Lib.hid ⟨by omega, by omega⟩, Gr.refl _⟩
  case round =>
    obtain ⟨i, rfl, hi, hno, hg⟩ := hrel
    have Hg := Lib.hid hg
    have kc := cellsOf ((hg.block _ (Array.getElem?_eq_some_iff.1 K1.out).1).trans K1.out)
    clear hg
    match i, hi, hno with
    | 0, hi, hno =>
      have k0 : wr.cell? ⟨w.heap.size, 0, none⟩ = some (.string ⟨#[39]⟩) := by rw [kc.1]; rfl
      clear kc
      have hP := Lib.hid (fun w => HC.out ⟨#[39]⟩ w)
      rw [show (⟨#[39]⟩ : ByteArray).data.toList = [39] from rfl, pre_one] at hP
      by_cases hq : l[0]? = some 39
      · rw [trim_one _ _ hq, decide_eq_true hq] at hP
        obtain ⟨inn, hinn⟩ : ∃ inn : ByteArray, inn = ⟨(l.drop 1).toArray⟩ := ⟨_, rfl⟩
        rw [← hinn] at hP
        have hil : inn.data.toList = l.drop 1 := by rw [hinn]
        have his : inn.size ≤ 140737488351232 := by rw [← sizeL, hil, List.length_drop]; have := Hlen.out; omega
        cases hsp : splitC 39 (l.drop 1) with
        | none =>
          have hCt := Lib.hid (fun w => cut_no inn ⟨#[39]⟩ 39 rfl (by rw [hil]; exact hsp) w)
          have HE : Hid (R = ([], [])) := Lib.hid (by rw [HR.out]; unfold hwL; rw [if_pos hq, hsp])
          clear hq hsp hno hinn hil
          go_wp2_with fail
          refine (hP.out _).mono ?_
          rintro e w2 ⟨rfl, rfl⟩
          go_wp2_with fail
          refine (hCt.out _).mono ?_
          rintro e w3 ⟨rfl, g3⟩
          go_wp2_with fail
          go_ret2
          rw [HE.out]
          exact ⟨rfl, Gr.trans (Gr.trans G1.out Hg.out) g3⟩
        | some p =>
          obtain ⟨a, b⟩ := p
          have hCt := Lib.hid (fun w => cut_yes inn ⟨#[39]⟩ 39 a b rfl (by rw [hil]; exact hsp) his w)
          have HE : Hid (R = (a, [39])) := Lib.hid (by rw [HR.out]; unfold hwL; rw [if_pos hq, hsp])
          clear hq hsp hno hinn hil
          go_wp2_with fail
          refine (hP.out _).mono ?_
          rintro e w2 ⟨rfl, rfl⟩
          go_wp2_with fail
          refine (hCt.out _).mono ?_
          rintro e w3 ⟨rfl, g3⟩
          go_wp2_with fail
          go_ret2
          rw [HE.out]
          exact ⟨rfl, Gr.trans (Gr.trans G1.out Hg.out) g3⟩
      · rw [decide_eq_false hq] at hP
        have HN : Hid ((1 ≤ 1 → l[0]? ≠ some 39) ∧ (2 ≤ 1 → l[0]? ≠ some 34)) := Lib.hid ⟨fun _ => hq, fun h => absurd h (by omega)⟩
        clear hq hno
        go_wp2_with fail
        refine (hP.out _).mono ?_
        rintro e w2 ⟨rfl, rfl⟩
        go_wp2_with fail
        go_roundw
        case rel => exact ⟨1, rfl, by omega, HN, Hg.out⟩
        case measure => simp [leftTo]
    | 1, hi, hno =>
      have k1 : wr.cell? ⟨w.heap.size, 1, none⟩ = some (.string ⟨#[34]⟩) := by rw [kc.1]; rfl
      clear kc
      have hP := Lib.hid (fun w => HC.out ⟨#[34]⟩ w)
      rw [show (⟨#[34]⟩ : ByteArray).data.toList = [34] from rfl, pre_one] at hP
      by_cases hq : l[0]? = some 34
      · rw [trim_one _ _ hq, decide_eq_true hq] at hP
        obtain ⟨inn, hinn⟩ : ∃ inn : ByteArray, inn = ⟨(l.drop 1).toArray⟩ := ⟨_, rfl⟩
        rw [← hinn] at hP
        have hil : inn.data.toList = l.drop 1 := by rw [hinn]
        have his : inn.size ≤ 140737488351232 := by rw [← sizeL, hil, List.length_drop]; have := Hlen.out; omega
        cases hsp : splitC 34 (l.drop 1) with
        | none =>
          have hCt := Lib.hid (fun w => cut_no inn ⟨#[34]⟩ 34 rfl (by rw [hil]; exact hsp) w)
          have HE : Hid (R = ([], [])) := Lib.hid (by rw [HR.out]; unfold hwL; rw [if_neg (hno.out.1 (by omega)), if_pos hq, hsp])
          clear hq hsp hno hinn hil
          go_wp2_with fail
          refine (hP.out _).mono ?_
          rintro e w2 ⟨rfl, rfl⟩
          go_wp2_with fail
          refine (hCt.out _).mono ?_
          rintro e w3 ⟨rfl, g3⟩
          go_wp2_with fail
          go_ret2
          rw [HE.out]
          exact ⟨rfl, Gr.trans (Gr.trans G1.out Hg.out) g3⟩
        | some p =>
          obtain ⟨a, b⟩ := p
          have hCt := Lib.hid (fun w => cut_yes inn ⟨#[34]⟩ 34 a b rfl (by rw [hil]; exact hsp) his w)
          have HE : Hid (R = (a, [34])) := Lib.hid (by rw [HR.out]; unfold hwL; rw [if_neg (hno.out.1 (by omega)), if_pos hq, hsp])
          clear hq hsp hno hinn hil
          go_wp2_with fail
          refine (hP.out _).mono ?_
          rintro e w2 ⟨rfl, rfl⟩
          go_wp2_with fail
          refine (hCt.out _).mono ?_
          rintro e w3 ⟨rfl, g3⟩
          go_wp2_with fail
          go_ret2
          rw [HE.out]
          exact ⟨rfl, Gr.trans (Gr.trans G1.out Hg.out) g3⟩
      · rw [decide_eq_false hq] at hP
        have HN : Hid ((1 ≤ 2 → l[0]? ≠ some 39) ∧ (2 ≤ 2 → l[0]? ≠ some 34)) := Lib.hid ⟨fun _ => hno.out.1 (by omega), fun _ => hq⟩
        clear hq hno
        go_wp2_with fail
        refine (hP.out _).mono ?_
        rintro e w2 ⟨rfl, rfl⟩
        go_wp2_with fail
        go_roundw
        case rel => exact ⟨2, rfl, by omega, HN, Hg.out⟩
        case measure => simp [leftTo]
    | 2, hi, hno =>
      have HE : Hid (R = (l.take n, [])) := Lib.hid (by rw [HR.out]; unfold hwL; rw [if_neg (hno.out.1 (by omega)), if_neg (hno.out.2 (by omega)), Hn.out])
      have tk := HTk.out
      clear kc hno
      go_wp2_with fail
      refine (HW.out _).mono ?_
      rintro e w2 ⟨rfl, rfl⟩
      go_wp2_with fail
      go_ret2
      rw [HE.out]
      exact ⟨by first | rfl | (rw [← tk]; rfl), Gr.trans G1.out Hg.out⟩
end Go.Proofs.YthmopindibdhnaaDoor.G
namespace Go.Proofs.YthmopindibdhnaaDoor.G
open Go.RowKit Go.Shelf Go.Maps
theorem idx_line (X : List UInt8) : Lib.indexByte X 10 = if (X.takeWhile (fun c => c != 10)).length < X.length then ((X.takeWhile (fun c => c != 10)).length : Int) else -1 := by
  induction X with
  | nil => rfl
  | cons x t ih =>
    rw [Lib.indexByte, List.takeWhile_cons]
    by_cases h : x = 10
    · subst h; rfl
    · have h1 : (x == 10) = false := by simpa using h
      have h2 : (x != 10) = true := by simpa using h
      by_cases h3 : (t.takeWhile (fun c => c != 10)).length < t.length
      · rw [if_pos h3] at ih
        rw [h1, h2, ih]
        simp only [Bool.false_eq_true, if_false, if_true, List.length_cons]
        rw [if_neg (by simp), if_pos (by omega)]
        omega
      · rw [if_neg h3] at ih
        rw [h1, h2, ih]
        simp only [Bool.false_eq_true, if_false, if_true, List.length_cons]
        rw [if_pos (by decide), if_neg (by omega)]
theorem split_line (X : List UInt8) : splitC 10 X = if (X.takeWhile (fun c => c != 10)).length < X.length then some (X.takeWhile (fun c => c != 10), X.drop ((X.takeWhile (fun c => c != 10)).length + 1)) else none := by
  induction X with
  | nil => rfl
  | cons x t ih =>
    rw [splitC, List.takeWhile_cons]
    by_cases h : x = 10
    · subst h; rfl
    · have h2 : (x != 10) = true := by simpa using h
      rw [if_neg h, h2, ih]
      simp only [if_true, List.length_cons]
      by_cases h3 : (t.takeWhile (fun c => c != 10)).length < t.length
      · rw [if_pos h3, if_pos (by omega)]; rfl
      · rw [if_neg h3, if_neg (by omega)]; rfl
theorem line_all (l : List UInt8) (a : Nat) (hal : a ≤ l.length) (h : ¬ a + (lineOf l a).length < l.length) : lineOf l a = l.drop a := by
  have hpre := List.takeWhile_prefix (l := l.drop a) (fun c : UInt8 => c != 10)
  refine hpre.eq_of_length ?_
  have := line_le l a hal
  rw [List.length_drop]
  unfold lineOf at *
  omega
/-- a store into the map of where lines go on -/
theorem wpList_put_J {W : World} {M : GoMap} {ops : Array Oper} {rest : List Oper} {o : Oper} {a : Act} {Q : Exit → Act → World → Prop}
    (hg : o.guard = none) (m x v : Operand) (hop : o.op = Op.mapUpdate 38 m x v) (hm : a.eval m = .map (some M.blk)) (hJ : MapJ W M) (hn : M.n < 140737488351232) (k u : Nat) (hx : a.eval x = .int .i64 (k : Int)) (hv : a.eval v = .int .i64 (u : Int)) (hk : k ≤ 140737488351232) (hu : u ≤ 140737488351232)
    (hK : ∀ W', MapJ W' ⟨M.blk, M.n + 1, jput M.J k u⟩ → W.grownBy W' (some M.blk) → wpList Tryd.prog ops Q rest (a.put o.dst undef) W') : wpList Tryd.prog ops Q (o :: rest) a W := by
  refine wpList_plain hg fun K' hK' => ?_
  obtain ⟨W', hrun, r1, r2⟩ := hJ.put hn hk hu
  unfold Oper.wp
  simp [execOp, hop, hm, hx, hv, hrun, Result.andThen]
  exact hK' _ _ (hK W' r1 r2)
variable {w w' : World} {P : Nat} {M : GoMap} {s : ByteArray} {at_ en : Nat} {tm : Bool} {tv bv ov : Value} {o e : UInt8}
theorem Sc.put {W W' : World} {M' : GoMap} (h : Sc W P M s at_ en tm tv bv ov) (hM : M'.blk = M.blk) (hJ : MapJ W' M') (g : W.grownBy W' (some M.blk)) : Sc W' P M' s at_ en tm tv bv ov :=
  ⟨by rw [g.block _ h.lt.1 (fun e => h.ne (by injection e with e; exact e.symm)), hM]; exact h.blk, hJ, by rw [hM]; exact h.ne⟩
theorem lines_no (h : Sc w P M s at_ en tm tv bv ov) (hat : at_ < s.size) (hE : ¬ at_ + (lineOf s.data.toList at_).length < s.data.toList.length) (nm : ByteArray) :
    Calls Tryd.prog 55 #[.pointer (some ⟨P, 0, none⟩), .string nm] w fun e w' => Bad s e ∧ Gr w w' := by
  have H := Lib.hid h
  have HI := Lib.hid (fun w => idx_any (s.extract at_ s.size) 10 w)
  rw [dropE, show ((10 : Int).toNat.toUInt8) = 10 from rfl, idx_line] at HI
  have hlt : ¬ ((s.data.toList.drop at_).takeWhile (fun c => c != 10)).length < (s.data.toList.drop at_).length := by rw [List.length_drop]; unfold lineOf at hE; omega
  rw [if_neg hlt] at HI
  have b0 : (at_ : Int) ≤ (s.size : Int) := by omega
  have Hat := Lib.hid hat
  obtain ⟨c0, c1, c2, c3, c4, c5, c6, c7, cf⟩ := h.cells
  clear h hE hlt hat
  go_enter Tryd.func55, Tryd.ntmps55
  go_wp2_with fail
  go_quiet ((go_at_call 37; exact quiet_at (HI.out _)))
  go_wp2_with fail
  exact ⟨rfl, ⟨at_, Hat.out, rfl⟩, (Gr.refl w).drewN _⟩
def LinesP (s : ByteArray) (P : Nat) (M : GoMap) (a en : Nat) (tm : Bool) (tv bv ov : Value) (E b0 : Nat) (w : World) (X : Option (Nat × Nat)) (e : Ending) (w' : World) : Prop :=
  match X with
  | none => Bad s e ∧ Bt P M.blk w w'
  | some r => e = .returned (.string ⟨((s.data.toList.drop b0).take (r.1 - b0)).toArray⟩) ∧ Sc w' P ⟨M.blk, M.n + 1, jput M.J E r.2⟩ s a en tm tv bv ov ∧ Bt P M.blk w w'
set_option maxRecDepth 100000 in
set_option maxHeartbeats 2000000 in
theorem lines_g (h : Sc w P M s at_ en tm tv bv ov) (hs : s.size ≤ 4000) (hat : at_ < s.size) (hJ : JOk s.data.toList M.J) (hMn : M.n ≤ 4000) (E : Nat) (hE : E = at_ + (lineOf s.data.toList at_).length) (hEl : E < s.data.toList.length) (nm : ByteArray) (X : Option (Nat × Nat)) (f0 : Nat) (hf0 : s.data.toList.length < nx M.J E + f0) (hX : X = linesA s.data.toList nm.data.toList f0 (nx M.J E)) :
    Calls Tryd.prog 55 #[.pointer (some ⟨P, 0, none⟩), .string nm] w (LinesP s P M at_ en tm tv bv ov E (nx M.J E) w X) := by
  have H := Lib.hid h
  have HI := Lib.hid (fun w => idx_any (s.extract at_ s.size) 10 w)
  rw [dropE, show ((10 : Int).toNat.toUInt8) = 10 from rfl, idx_line] at HI
  have hlt : ((s.data.toList.drop at_).takeWhile (fun c => c != 10)).length < (s.data.toList.drop at_).length := by rw [List.length_drop]; unfold lineOf at hE; omega
  rw [if_pos hlt, show ((s.data.toList.drop at_).takeWhile (fun c => c != 10)).length = E - at_ by unfold lineOf at hE; omega] at HI
  obtain ⟨l, hl⟩ : ∃ l, l = s.data.toList := ⟨_, rfl⟩
  have hsz : s.size = l.length := by rw [hl, ← sizeL]
  rw [← hl] at hJ hE hEl hX hf0
  obtain ⟨d, hd⟩ : ∃ d, d = E - at_ := ⟨_, rfl⟩
  have hdE : (at_ : Int) + (d : Int) = (E : Int) := by omega
  rw [← hd] at HI
  have b0 : (at_ : Int) ≤ (s.size : Int) := by omega
  have d0 : ¬ (d : Int) < 0 := by omega
  have d1 : decide ((d : Int) < 0) = false := by simp
  have hE2 : E ≤ 140737488351232 := by omega
  obtain ⟨B, hB⟩ : ∃ B, B = nx M.J E := ⟨_, rfl⟩
  rw [← hB] at hX hf0 ⊢
  have hBE : E < B := by rw [hB]; exact nx_gt hJ E
  have hBl : B ≤ l.length := by rw [hB]; exact nx_le hJ hEl
  have HX := Lib.hid hX
  have Hat := Lib.hid hat
  have Hl := Lib.hid hl
  have Hsz := Lib.hid hsz
  have HMn := Lib.hid hMn
  have Hs := Lib.hid hs
  have Hf0 := Lib.hid hf0
  have HBl := Lib.hid hBl
  have HE4 : Hid (E ≤ 4000) := Lib.hid (by omega)
  have hlk : (∀ q : Nat, (Instr.lookup 38 (.map (some M.blk)) (.int .i64 (E : Int)) true).run Tryd.prog (w.drewN q) = .ok (.tuple #[.int .i64 0, .bool false]) (w.drewN q)) ∧ B = E + 1 ∨ (∀ q : Nat, (Instr.lookup 38 (.map (some M.blk)) (.int .i64 (E : Int)) true).run Tryd.prog (w.drewN q) = .ok (.tuple #[.int .i64 (B : Int), .bool true]) (w.drewN q)) := by
    cases e2 : M.J E with
    | none => exact .inl ⟨fun q => MapJ.look_no (w := w.drewN q) (h.mp.at rfl) hE2 e2, by rw [hB]; unfold nx; rw [e2]; rfl⟩
    | some v =>
      have : B = v := by rw [hB]; unfold nx; rw [e2]; rfl
      rw [this]
      exact .inr fun q => MapJ.look_yes (w := w.drewN q) (h.mp.at rfl) hE2 e2
  obtain ⟨c0, c1, c2, c3, c4, c5, c6, c7, cf⟩ := h.cells
  have bE : (E : Int) + 1 ≤ 9223372036854775807 := by omega
  have bE2 : -9223372036854775808 ≤ (E : Int) + 1 := by omega
  clear h hE hlt hat hJ hX hl hsz hd hB hEl hf0 hMn hBl hs
  rcases hlk with ⟨hlk, hB1⟩ | hlk
  · have hEB : (E : Int) + 1 = (B : Int) := by omega
    clear hB1 hBE
    go_enter Tryd.func55, Tryd.ntmps55
    go_wp2_with fail
    go_quiet ((go_at_call 37; exact quiet_at (HI.out _)))
    clear HI
    go_wp2_with fail
    clear hlk c0 c1 c2 c3 c4 c5 c6 c7 cf
    go_loopw [9] (fun v wr => ∃ n f : Nat, v = .int .i64 (n : Int) ∧ B ≤ n ∧ n ≤ l.length ∧ l.length < n + f ∧ Gr w wr ∧ Hid (X = linesA l nm.data.toList f n)) (fun v _ => leftTo l.length v)
    case atStart => exact ⟨B, f0, rfl, Nat.le_refl _, HBl.out, Hf0.out, (Gr.refl w).drewN _, HX⟩
    case round =>
      obtain ⟨n, f, rfl, hBn, hnl, hnf, hg, hR⟩ := hrel
      have Hg := Lib.hid hg
      have Hnl := Lib.hid hnl
      have HBn := Lib.hid hBn
      have hsz := Hsz.out
      obtain ⟨c0, c1, c2, c3, c4, c5, c6, c7, cf⟩ := (H.out.gr Hg.out).cells
      clear hg HX
      by_cases hc : n < l.length
      · obtain ⟨f, rfl⟩ : ∃ g, f = g + 1 := ⟨f - 1, by omega⟩
        have hsn : (n : Int) < (s.size : Int) := by omega
        have hsn' : (n : Int) ≤ (s.size : Int) := by omega
        have hs4 := Hs.out
        have hxl : (s.extract n s.size).data.toList = l.drop n := by rw [dropE, Hl.out]
        by_cases hm : n + (lineOf l n).length < l.length
        · have hCt := Lib.hid (fun w => cut_yes (s.extract n s.size) ⟨#[10]⟩ 10 (lineOf l n) ((l.drop n).drop ((lineOf l n).length + 1)) rfl (by rw [hxl, split_line]; unfold lineOf at hm; rw [if_pos (by rw [List.length_drop]; omega)]; rfl) (by rw [← sizeL, hxl, List.length_drop]; omega) w)
          obtain ⟨ln, hln⟩ : ∃ ln : ByteArray, ln = ⟨(lineOf l n).toArray⟩ := ⟨_, rfl⟩
          rw [← hln] at hCt
          have hll : ln.data.toList = lineOf l n := by rw [hln]
          have hls : ln.size = (lineOf l n).length := by rw [← sizeL, hll]
          have hbh : behindL l n = n + ln.size + 1 := by unfold behindL; rw [if_pos hm, hls]
          have hbg := behind_gt hc
          obtain ⟨bh, hbhe⟩ : ∃ bh, bh = behindL l n := ⟨_, rfl⟩
          have hsum : (n : Int) + (ln.size : Int) + 1 = (bh : Int) := by rw [hbhe, hbh]; omega
          rw [← hbhe] at hbg
          have Hbh := Lib.hid hbhe
          have Hbg := Lib.hid hbg
          have w1 : (n : Int) + (ln.size : Int) ≤ 9223372036854775807 := by omega
          have w2 : -9223372036854775808 ≤ (n : Int) + (ln.size : Int) := by omega
          have w3 : (bh : Int) ≤ 9223372036854775807 := by omega
          have w4 : -9223372036854775808 ≤ (bh : Int) := by omega
          have w5 : Hid (bh ≤ 140737488351232) := Lib.hid (by omega)
          by_cases heq : lineOf l n = nm.data.toList
          · have heb : (ln.toList == nm.toList) = true := by rw [ByteArray.toList_eq, ByteArray.toList_eq, hll, heq]; simp
            have HXX : Hid (X = some (n, bh)) := Lib.hid (by rw [hR.out, linesA, if_pos hc, if_pos heq, hbhe])
            have HSl : Hid (s.extract B n = ⟨((l.drop B).take (n - B)).toArray⟩) := Lib.hid (baE (by rw [extractE, ← Hl.out]))
            have n1 : (n : Int) ≤ (s.size : Int) := by omega
            have n2 : (B : Int) ≤ (n : Int) := by omega
            clear hR hll hls hln hbh hbg hbhe heq hxl hm hsz hnf hBn hnl hc
            go_wp2_with fail
            refine (hCt.out _).mono ?_
            rintro e w3 ⟨rfl, g3⟩
            have G3 := Lib.hid (Gr.trans Hg.out g3)
            clear g3 c0 c1 c2 c3 c4 c5 c6 c7 cf
            obtain ⟨c0, c1, c2, c3, c4, c5, c6, c7, cf⟩ := (H.out.gr G3.out).cells
            go_wp2_with (refine wpList_put_J rfl (.tmp 82) (.tmp 83) (.tmp 84) rfl rfl (H.out.gr G3.out).mp (by have := HMn.out; omega) E bh rfl rfl (by have := HE4.out; omega) w5.out ?_)
            intro W4 hj4 hg4
            have S4 := Lib.hid ((H.out.gr G3.out).put (M' := ⟨M.blk, M.n + 1, jput M.J E bh⟩) rfl hj4 hg4)
            have B4 := Lib.hid ((Bt.of_gr (A := P) (B := M.blk) G3.out).trans (Bt.of_but2 hg4))
            clear hj4 hg4 c0 c1 c2 c3 c4 c5 c6 c7 cf
            obtain ⟨c0, c1, c2, c3, c4, c5, c6, c7, cf⟩ := S4.out.cells
            go_wp2_with fail
            go_ret
            rw [HXX.out]
            refine ⟨?_, S4.out, B4.out⟩
            rw [← Hl.out]
            first | rfl | (rw [← HSl.out]; rfl)
          · have heb : (ln.toList == nm.toList) = false := by rw [ByteArray.toList_eq, ByteArray.toList_eq, hll]; simpa using heq
            have HXX : Hid (X = linesA l nm.data.toList f bh) := Lib.hid (by rw [hR.out, linesA, if_pos hc, if_neg heq, hbhe])
            have Hnf : Hid (l.length < bh + f) := Lib.hid (by omega)
            clear hR hll hls hln hbh hbg hbhe heq hxl hm hsz hnf hBn hnl hc
            go_wp2_with fail
            refine (hCt.out _).mono ?_
            rintro e w3 ⟨rfl, g3⟩
            have G3 := Lib.hid (Gr.trans Hg.out g3)
            clear g3 c0 c1 c2 c3 c4 c5 c6 c7 cf
            go_wp2_with fail
            go_roundw
            case rel => have := Hbg.out; have := HBn.out; exact ⟨bh, f, by first | rfl | (rw [hsum]), by omega, by omega, Hnf.out, G3.out, HXX⟩
            case measure => have := Hbg.out; simp only [leftTo]; omega
        · have hCt := Lib.hid (fun w => cut_no (s.extract n s.size) ⟨#[10]⟩ 10 rfl (by rw [hxl, split_line]; unfold lineOf at hm; rw [if_neg (by rw [List.length_drop]; omega)]) w)
          obtain ⟨ln, hln⟩ : ∃ ln : ByteArray, ln = s.extract n s.size := ⟨_, rfl⟩
          rw [← hln] at hCt
          have hx : s.extract n s.size = ln := hln.symm
          have hll : ln.data.toList = lineOf l n := by rw [hln, hxl, line_all l n hnl hm]
          have hls : ln.size = (lineOf l n).length := by rw [← sizeL, hll]
          have hbh : behindL l n = n + ln.size := by unfold behindL; rw [if_neg hm, hls]
          have hbg := behind_gt hc
          obtain ⟨bh, hbhe⟩ : ∃ bh, bh = behindL l n := ⟨_, rfl⟩
          have hsum : (n : Int) + (ln.size : Int) = (bh : Int) := by rw [hbhe, hbh]; omega
          rw [← hbhe] at hbg
          have Hbh := Lib.hid hbhe
          have Hbg := Lib.hid hbg
          have w1 : (n : Int) + (ln.size : Int) ≤ 9223372036854775807 := by omega
          have w2 : -9223372036854775808 ≤ (n : Int) + (ln.size : Int) := by omega
          have w3 : (bh : Int) ≤ 9223372036854775807 := by omega
          have w4 : -9223372036854775808 ≤ (bh : Int) := by omega
          have w5 : Hid (bh ≤ 140737488351232) := Lib.hid (by omega)
          by_cases heq : lineOf l n = nm.data.toList
          · have heb : (ln.toList == nm.toList) = true := by rw [ByteArray.toList_eq, ByteArray.toList_eq, hll, heq]; simp
            have HXX : Hid (X = some (n, bh)) := Lib.hid (by rw [hR.out, linesA, if_pos hc, if_pos heq, hbhe])
            have HSl : Hid (s.extract B n = ⟨((l.drop B).take (n - B)).toArray⟩) := Lib.hid (baE (by rw [extractE, ← Hl.out]))
            have n1 : (n : Int) ≤ (s.size : Int) := by omega
            have n2 : (B : Int) ≤ (n : Int) := by omega
            clear hR hll hls hln hbh hbg hbhe heq hxl hm hsz hnf hBn hnl hc
            go_wp2_with fail
            refine (hCt.out _).mono ?_
            rintro e w3 ⟨rfl, g3⟩
            have G3 := Lib.hid (Gr.trans Hg.out g3)
            clear g3 c0 c1 c2 c3 c4 c5 c6 c7 cf
            obtain ⟨c0, c1, c2, c3, c4, c5, c6, c7, cf⟩ := (H.out.gr G3.out).cells
            go_wp2_with (refine wpList_put_J rfl (.tmp 82) (.tmp 83) (.tmp 84) rfl rfl (H.out.gr G3.out).mp (by have := HMn.out; omega) E bh rfl rfl (by have := HE4.out; omega) w5.out ?_)
            intro W4 hj4 hg4
            have S4 := Lib.hid ((H.out.gr G3.out).put (M' := ⟨M.blk, M.n + 1, jput M.J E bh⟩) rfl hj4 hg4)
            have B4 := Lib.hid ((Bt.of_gr (A := P) (B := M.blk) G3.out).trans (Bt.of_but2 hg4))
            clear hj4 hg4 c0 c1 c2 c3 c4 c5 c6 c7 cf
            obtain ⟨c0, c1, c2, c3, c4, c5, c6, c7, cf⟩ := S4.out.cells
            go_wp2_with fail
            go_ret
            rw [HXX.out]
            refine ⟨?_, S4.out, B4.out⟩
            rw [← Hl.out]
            first | rfl | (rw [← HSl.out]; rfl)
          · have heb : (ln.toList == nm.toList) = false := by rw [ByteArray.toList_eq, ByteArray.toList_eq, hll]; simpa using heq
            have HXX : Hid (X = linesA l nm.data.toList f bh) := Lib.hid (by rw [hR.out, linesA, if_pos hc, if_neg heq, hbhe])
            have Hnf : Hid (l.length < bh + f) := Lib.hid (by omega)
            clear hR hll hls hln hbh hbg hbhe heq hxl hm hsz hnf hBn hnl hc
            go_wp2_with fail
            refine (hCt.out _).mono ?_
            rintro e w3 ⟨rfl, g3⟩
            have G3 := Lib.hid (Gr.trans Hg.out g3)
            clear g3 c0 c1 c2 c3 c4 c5 c6 c7 cf
            go_wp2_with fail
            go_roundw
            case rel => have := Hbg.out; have := HBn.out; exact ⟨bh, f, by first | rfl | (rw [hsum]), by omega, by omega, Hnf.out, G3.out, HXX⟩
            case measure => have := Hbg.out; simp only [leftTo]; omega
      · have g1 : decide (n < s.size) = false := by rw [hsz]; simpa using hc
        have g2 : decide ((n : Int) < (s.size : Int)) = false := by rw [hsz]; simp; omega
        have HXX : Hid (X = none) := Lib.hid (by
          rw [hR.out]
          cases f with
          | zero => rfl
          | succ f => rw [linesA, if_neg hc])
        clear hR hsz hc hnl hnf
        go_wp2_with fail
        refine ⟨rfl, ?_⟩
        rw [HXX.out]
        exact ⟨⟨at_, Hat.out, rfl⟩, Bt.of_gr Hg.out⟩
  · clear hBE
    go_enter Tryd.func55, Tryd.ntmps55
    go_wp2_with fail
    go_quiet ((go_at_call 37; exact quiet_at (HI.out _)))
    clear HI
    go_wp2_with fail
    clear hlk c0 c1 c2 c3 c4 c5 c6 c7 cf
    go_loopw [9] (fun v wr => ∃ n f : Nat, v = .int .i64 (n : Int) ∧ B ≤ n ∧ n ≤ l.length ∧ l.length < n + f ∧ Gr w wr ∧ Hid (X = linesA l nm.data.toList f n)) (fun v _ => leftTo l.length v)
    case atStart => exact ⟨B, f0, rfl, Nat.le_refl _, HBl.out, Hf0.out, (Gr.refl w).drewN _, HX⟩
    case round =>
      obtain ⟨n, f, rfl, hBn, hnl, hnf, hg, hR⟩ := hrel
      have Hg := Lib.hid hg
      have Hnl := Lib.hid hnl
      have HBn := Lib.hid hBn
      have hsz := Hsz.out
      obtain ⟨c0, c1, c2, c3, c4, c5, c6, c7, cf⟩ := (H.out.gr Hg.out).cells
      clear hg HX
      by_cases hc : n < l.length
      · obtain ⟨f, rfl⟩ : ∃ g, f = g + 1 := ⟨f - 1, by omega⟩
        have hsn : (n : Int) < (s.size : Int) := by omega
        have hsn' : (n : Int) ≤ (s.size : Int) := by omega
        have hs4 := Hs.out
        have hxl : (s.extract n s.size).data.toList = l.drop n := by rw [dropE, Hl.out]
        by_cases hm : n + (lineOf l n).length < l.length
        · have hCt := Lib.hid (fun w => cut_yes (s.extract n s.size) ⟨#[10]⟩ 10 (lineOf l n) ((l.drop n).drop ((lineOf l n).length + 1)) rfl (by rw [hxl, split_line]; unfold lineOf at hm; rw [if_pos (by rw [List.length_drop]; omega)]; rfl) (by rw [← sizeL, hxl, List.length_drop]; omega) w)
          obtain ⟨ln, hln⟩ : ∃ ln : ByteArray, ln = ⟨(lineOf l n).toArray⟩ := ⟨_, rfl⟩
          rw [← hln] at hCt
          have hll : ln.data.toList = lineOf l n := by rw [hln]
          have hls : ln.size = (lineOf l n).length := by rw [← sizeL, hll]
          have hbh : behindL l n = n + ln.size + 1 := by unfold behindL; rw [if_pos hm, hls]
          have hbg := behind_gt hc
          obtain ⟨bh, hbhe⟩ : ∃ bh, bh = behindL l n := ⟨_, rfl⟩
          have hsum : (n : Int) + (ln.size : Int) + 1 = (bh : Int) := by rw [hbhe, hbh]; omega
          rw [← hbhe] at hbg
          have Hbh := Lib.hid hbhe
          have Hbg := Lib.hid hbg
          have w1 : (n : Int) + (ln.size : Int) ≤ 9223372036854775807 := by omega
          have w2 : -9223372036854775808 ≤ (n : Int) + (ln.size : Int) := by omega
          have w3 : (bh : Int) ≤ 9223372036854775807 := by omega
          have w4 : -9223372036854775808 ≤ (bh : Int) := by omega
          have w5 : Hid (bh ≤ 140737488351232) := Lib.hid (by omega)
          by_cases heq : lineOf l n = nm.data.toList
          · have heb : (ln.toList == nm.toList) = true := by rw [ByteArray.toList_eq, ByteArray.toList_eq, hll, heq]; simp
            have HXX : Hid (X = some (n, bh)) := Lib.hid (by rw [hR.out, linesA, if_pos hc, if_pos heq, hbhe])
            have HSl : Hid (s.extract B n = ⟨((l.drop B).take (n - B)).toArray⟩) := Lib.hid (baE (by rw [extractE, ← Hl.out]))
            have n1 : (n : Int) ≤ (s.size : Int) := by omega
            have n2 : (B : Int) ≤ (n : Int) := by omega
            clear hR hll hls hln hbh hbg hbhe heq hxl hm hsz hnf hBn hnl hc
            go_wp2_with fail
            refine (hCt.out _).mono ?_
            rintro e w3 ⟨rfl, g3⟩
            have G3 := Lib.hid (Gr.trans Hg.out g3)
            clear g3 c0 c1 c2 c3 c4 c5 c6 c7 cf
            obtain ⟨c0, c1, c2, c3, c4, c5, c6, c7, cf⟩ := (H.out.gr G3.out).cells
            go_wp2_with (refine wpList_put_J rfl (.tmp 82) (.tmp 83) (.tmp 84) rfl rfl (H.out.gr G3.out).mp (by have := HMn.out; omega) E bh rfl rfl (by have := HE4.out; omega) w5.out ?_)
            intro W4 hj4 hg4
            have S4 := Lib.hid ((H.out.gr G3.out).put (M' := ⟨M.blk, M.n + 1, jput M.J E bh⟩) rfl hj4 hg4)
            have B4 := Lib.hid ((Bt.of_gr (A := P) (B := M.blk) G3.out).trans (Bt.of_but2 hg4))
            clear hj4 hg4 c0 c1 c2 c3 c4 c5 c6 c7 cf
            obtain ⟨c0, c1, c2, c3, c4, c5, c6, c7, cf⟩ := S4.out.cells
            go_wp2_with fail
            go_ret
            rw [HXX.out]
            refine ⟨?_, S4.out, B4.out⟩
            rw [← Hl.out]
            first | rfl | (rw [← HSl.out]; rfl)
          · have heb : (ln.toList == nm.toList) = false := by rw [ByteArray.toList_eq, ByteArray.toList_eq, hll]; simpa using heq
            have HXX : Hid (X = linesA l nm.data.toList f bh) := Lib.hid (by rw [hR.out, linesA, if_pos hc, if_neg heq, hbhe])
            have Hnf : Hid (l.length < bh + f) := Lib.hid (by omega)
            clear hR hll hls hln hbh hbg hbhe heq hxl hm hsz hnf hBn hnl hc
            go_wp2_with fail
            refine (hCt.out _).mono ?_
            rintro e w3 ⟨rfl, g3⟩
            have G3 := Lib.hid (Gr.trans Hg.out g3)
            clear g3 c0 c1 c2 c3 c4 c5 c6 c7 cf
            go_wp2_with fail
            go_roundw
            case rel => have := Hbg.out; have := HBn.out; exact ⟨bh, f, by first | rfl | (rw [hsum]), by omega, by omega, Hnf.out, G3.out, HXX⟩
            case measure => have := Hbg.out; simp only [leftTo]; omega
        · have hCt := Lib.hid (fun w => cut_no (s.extract n s.size) ⟨#[10]⟩ 10 rfl (by rw [hxl, split_line]; unfold lineOf at hm; rw [if_neg (by rw [List.length_drop]; omega)]) w)
          obtain ⟨ln, hln⟩ : ∃ ln : ByteArray, ln = s.extract n s.size := ⟨_, rfl⟩
          rw [← hln] at hCt
          have hx : s.extract n s.size = ln := hln.symm
          have hll : ln.data.toList = lineOf l n := by rw [hln, hxl, line_all l n hnl hm]
          have hls : ln.size = (lineOf l n).length := by rw [← sizeL, hll]
          have hbh : behindL l n = n + ln.size := by unfold behindL; rw [if_neg hm, hls]
          have hbg := behind_gt hc
          obtain ⟨bh, hbhe⟩ : ∃ bh, bh = behindL l n := ⟨_, rfl⟩
          have hsum : (n : Int) + (ln.size : Int) = (bh : Int) := by rw [hbhe, hbh]; omega
          rw [← hbhe] at hbg
          have Hbh := Lib.hid hbhe
          have Hbg := Lib.hid hbg
          have w1 : (n : Int) + (ln.size : Int) ≤ 9223372036854775807 := by omega
          have w2 : -9223372036854775808 ≤ (n : Int) + (ln.size : Int) := by omega
          have w3 : (bh : Int) ≤ 9223372036854775807 := by omega
          have w4 : -9223372036854775808 ≤ (bh : Int) := by omega
          have w5 : Hid (bh ≤ 140737488351232) := Lib.hid (by omega)
          by_cases heq : lineOf l n = nm.data.toList
          · have heb : (ln.toList == nm.toList) = true := by rw [ByteArray.toList_eq, ByteArray.toList_eq, hll, heq]; simp
            have HXX : Hid (X = some (n, bh)) := Lib.hid (by rw [hR.out, linesA, if_pos hc, if_pos heq, hbhe])
            have HSl : Hid (s.extract B n = ⟨((l.drop B).take (n - B)).toArray⟩) := Lib.hid (baE (by rw [extractE, ← Hl.out]))
            have n1 : (n : Int) ≤ (s.size : Int) := by omega
            have n2 : (B : Int) ≤ (n : Int) := by omega
            clear hR hll hls hln hbh hbg hbhe heq hxl hm hsz hnf hBn hnl hc
            go_wp2_with fail
            refine (hCt.out _).mono ?_
            rintro e w3 ⟨rfl, g3⟩
            have G3 := Lib.hid (Gr.trans Hg.out g3)
            clear g3 c0 c1 c2 c3 c4 c5 c6 c7 cf
            obtain ⟨c0, c1, c2, c3, c4, c5, c6, c7, cf⟩ := (H.out.gr G3.out).cells
            go_wp2_with (refine wpList_put_J rfl (.tmp 82) (.tmp 83) (.tmp 84) rfl rfl (H.out.gr G3.out).mp (by have := HMn.out; omega) E bh rfl rfl (by have := HE4.out; omega) w5.out ?_)
            intro W4 hj4 hg4
            have S4 := Lib.hid ((H.out.gr G3.out).put (M' := ⟨M.blk, M.n + 1, jput M.J E bh⟩) rfl hj4 hg4)
            have B4 := Lib.hid ((Bt.of_gr (A := P) (B := M.blk) G3.out).trans (Bt.of_but2 hg4))
            clear hj4 hg4 c0 c1 c2 c3 c4 c5 c6 c7 cf
            obtain ⟨c0, c1, c2, c3, c4, c5, c6, c7, cf⟩ := S4.out.cells
            go_wp2_with fail
            go_ret
            rw [HXX.out]
            refine ⟨?_, S4.out, B4.out⟩
            rw [← Hl.out]
            first | rfl | (rw [← HSl.out]; rfl)
          · have heb : (ln.toList == nm.toList) = false := by rw [ByteArray.toList_eq, ByteArray.toList_eq, hll]; simpa using heq
            have HXX : Hid (X = linesA l nm.data.toList f bh) := Lib.hid (by rw [hR.out, linesA, if_pos hc, if_neg heq, hbhe])
            have Hnf : Hid (l.length < bh + f) := Lib.hid (by omega)
            clear hR hll hls hln hbh hbg hbhe heq hxl hm hsz hnf hBn hnl hc
            go_wp2_with fail
            refine (hCt.out _).mono ?_
            rintro e w3 ⟨rfl, g3⟩
            have G3 := Lib.hid (Gr.trans Hg.out g3)
            clear g3 c0 c1 c2 c3 c4 c5 c6 c7 cf
            go_wp2_with fail
            go_roundw
            case rel => have := Hbg.out; have := HBn.out; exact ⟨bh, f, by first | rfl | (rw [hsum]), by omega, by omega, Hnf.out, G3.out, HXX⟩
            case measure => have := Hbg.out; simp only [leftTo]; omega
      · have g1 : decide (n < s.size) = false := by rw [hsz]; simpa using hc
        have g2 : decide ((n : Int) < (s.size : Int)) = false := by rw [hsz]; simp; omega
        have HXX : Hid (X = none) := Lib.hid (by
          rw [hR.out]
          cases f with
          | zero => rfl
          | succ f => rw [linesA, if_neg hc])
        clear hR hsz hc hnl hnf
        go_wp2_with fail
        refine ⟨rfl, ?_⟩
        rw [HXX.out]
        exact ⟨⟨at_, Hat.out, rfl⟩, Bt.of_gr Hg.out⟩
end Go.Proofs.YthmopindibdhnaaDoor.G
