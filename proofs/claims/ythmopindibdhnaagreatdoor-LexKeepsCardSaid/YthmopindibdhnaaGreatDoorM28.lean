/- RQuo6 RLin -/
import Derived.Test.YthmopindibdhnaaGreatDoorM27
import Derived.Test.YthmopindibdhnaaGreatDoorM23
namespace Go.Proofs.YthmopindibdhnaaGreatDoor.G
open Go.RowKit Go.Shelf Go.Maps
variable {w w' : World} {P base : Nat} {s : ByteArray} {pv : Value} {at_ : Nat} {tv bv : Value} {tm : Bool} {ov : Value} {en : Nat} {sg : Bool} {G : Prop} {S : Src} {rt : List RTok} {tms : List Bool} {ops : List Nat} {ks : List Tok}
theorem quote_6s {pl : Nat} {d n : Nat} (hd : d < S.length) (h : endN S[d].2 (partU S[d].2) 0 (byt (S.drop (d + 1))) = some n) : quoteS pl 6 (S.drop d) = some (⟨6, pl, 3, (byt (S.drop (d + 1))).take n, [], [], S[d].2, 0, 0⟩, (S.drop (d + 1)).drop (n + 1)) := by
  rw [List.drop_eq_getElem_cons hd]
  simp only [quoteS, part_end, h]
  rfl
theorem plR_mem (o q : UInt8) : ∀ (n : Nat) (l : List UInt8), l.length ≤ n → ∀ c ∈ plR o q l, c ∈ l
  | 0, l, hl, c, hc => by
    have : l = [] := List.eq_nil_of_length_eq_zero (by omega)
    subst this
    simp [plR] at hc
  | n + 1, [], _, c, hc => by simp [plR] at hc
  | n + 1, [x], _, c, hc => by simpa [plR] using hc
  | n + 1, x :: y :: t, hl, c, hc => by
    rw [plR] at hc
    split at hc
    · rcases List.mem_cons.1 hc with hc | hc
      · simp [hc]
      · have := plR_mem o q n t (by simp at hl; omega) c hc
        simp [this]
    · rcases List.mem_cons.1 hc with hc | hc
      · simp [hc]
      · have := plR_mem o q n (y :: t) (by simp at hl ⊢; omega) c hc
        simp at this ⊢; exact .inr this
theorem quo6_lk {G : Prop} {p : Nat} {o : UInt8} {raw : List UInt8} (hG : G → ∀ c ∈ raw, ownC c = true) : Lk G ⟨6, (p : Int), ba (wordsR (plR o (partU o) raw)), ⟨#[]⟩, ⟨#[]⟩, 0⟩ ⟨6, p, 3, raw, [], [], o, 0, 0⟩ := by
  refine ⟨rfl, rfl, fun e => absurd (show (6 : Nat) = 3 from e) (by decide), fun g => ?_⟩
  have e1 : textP ⟨6, p, 3, raw, [], [], o, 0, 0⟩ = wordsR (plR o (partU o) raw) := by
    rw [← words_eq _ (fun c hc => hG g c (plR_mem o (partU o) _ raw (Nat.le_refl _) c hc)), ← pl_eq]; rfl
  unfold rend
  rw [e1]; rfl
set_option maxRecDepth 100000 in
set_option maxHeartbeats 4000000 in
theorem quote_6 (h : RSt G w P base S at_ true en rt tms ops ks s pv tv bv ov) (hat : at_ < S.length) (hks : ks.length ≤ 4000) (d : Nat) (hd : d < S.length) (ho : delimB S[d].2.toNat = true) :
    Calls Tryz.prog 74 #[.pointer (some ⟨P, 0, none⟩), .int .i64 6, .int .i64 (d : Int)] w (QuoR G P base rt tms ks S ops w d (quoteS S[at_].1 6 (S.drop d))) := by
  obtain ⟨X, hX⟩ : ∃ X, X = quoteS S[at_].1 6 (S.drop d) := ⟨_, rfl⟩
  rw [← hX]
  have HX := Lib.hid hX
  have hsz := h.size
  have hle := h.le
  have HS := Lib.hid h.eq
  have H := Lib.hid h
  have ex := byt_at h.eq d (by omega) hd
  obtain ⟨o, hoo⟩ : ∃ o, o = S[d].2 := ⟨_, rfl⟩
  rw [← hoo] at ho ex
  obtain ⟨m, hm⟩ : ∃ m, m = d + 1 := ⟨_, rfl⟩
  have hm1 : (d : Int) + 1 = (m : Int) := by omega
  have hm2 : (m : Int) ≤ 9223372036854775807 := by omega
  have hm3 : -9223372036854775808 ≤ (m : Int) := by omega
  have hwm : IntKind.i64.wrap (m : Int) = (m : Int) := by rw [IntKind.wrap_i64]; omega
  have hds : (d : Int) < (s.size : Int) := by omega
  have hbd : s.data.toList.drop m = byt (S.drop m) := by rw [HS.out, byt_drop]
  have HQ := Lib.hid (fun w => quoted_r s (by omega) o ho m (by omega) w)
  rw [hbd] at HQ
  obtain ⟨c0, c1, c2, c3, c4, c5, c6, c7, c8, cf⟩ := h.sc.cells
  cases hq : endN o (partU o) 0 (byt (S.drop m)) with
  | none =>
    rw [hq] at HQ
    have HXn : Hid (X = none) := Lib.hid (by rw [HX.out]; exact quote_none hd (by rw [← hoo, ← hm]; exact hq))
    rw [show optI ((none : Option Nat).map (· + m)) = -1 from rfl] at HQ
    clear hq h hX hoo hm hbd hle
    go_enter Tryz.func74, Tryz.ntmps74
    go_wp2_with (go_at_call 92; refine (HQ.out _).mono ?_; rintro e1 w1 ⟨rfl, rfl⟩)
    go_ret
    rw [HXn.out]
    exact ⟨rfl, Gr.refl w⟩
  | some n =>
    rw [hq] at HQ
    have hnl := endN_lt _ _ _ _ _ hq
    rw [byt_len, List.length_drop] at hnl
    have HX3 : Hid (X = some (⟨6, S[at_].1, 3, (byt (S.drop m)).take n, [], [], o, 0, 0⟩, (S.drop m).drop (n + 1))) := Lib.hid (by rw [HX.out, quote_6s hd (by rw [← hoo, ← hm]; exact hq), ← hoo, ← hm])
    obtain ⟨L, hL⟩ : ∃ L, L = n + m := ⟨_, rfl⟩
    rw [show optI ((some n).map (· + m)) = ((n + m : Nat) : Int) from rfl, ← hL] at HQ
    have HLL : Hid (L < S.length) := Lib.hid (by omega)
    have l0 : ¬ (L : Int) < 0 := by omega
    have l1 : (m : Int) ≤ (L : Int) := by omega
    have l2 : (L : Int) ≤ (s.size : Int) := by omega
    have l3 : decide ((L : Int) < 0) = false := decide_eq_false l0
    obtain ⟨M1, hM1⟩ : ∃ M1, M1 = L + 1 := ⟨_, rfl⟩
    have m1 : (L : Int) + 1 = (M1 : Int) := by omega
    have m2 : IntKind.i64.wrap (M1 : Int) = (M1 : Int) := by rw [IntKind.wrap_i64]; omega
    have m1a : (M1 : Int) ≤ 9223372036854775807 := by omega
    have m1b : -9223372036854775808 ≤ (M1 : Int) := by omega
    have HT1 := Lib.hid (fun w => plain_r (s.extract m L) (by simp [ByteArray.size_extract]; omega) o (partU o) ((partR_ok o).1 ho).1 w)
    rw [show (s.extract m L).data.toList = (byt (S.drop m)).take n by rw [extractE, HS.out, byt_drop, hL]; congr 1; omega] at HT1
    obtain ⟨tA, htA⟩ : ∃ tA, tA = ba (wordsR (plR o (partU o) ((byt (S.drop m)).take n))) := ⟨_, rfl⟩
    obtain ⟨tB, htB⟩ : ∃ tB, tB = ba (plR o (partU o) ((byt (S.drop m)).take n)) := ⟨_, rfl⟩
    rw [← htB] at HT1
    have hBs : tB.size ≤ 4000 := by rw [← sizeL, htB, ba_data]; have := plR_len o (partU o) ((byt (S.drop m)).take n); simp at this; omega
    have HW1 := Lib.hid (fun w => words_r tB (by omega) w)
    rw [show wordsR tB.data.toList = wordsR (plR o (partU o) ((byt (S.drop m)).take n)) by rw [htB, ba_data], ← htA] at HW1
    have HG6 : Hid (G → ∀ c ∈ (byt (S.drop m)).take n, ownC c = true) := Lib.hid (fun g c hc => h.gs g c (by have := List.mem_of_mem_take hc; rw [byt_drop] at this; exact List.mem_of_mem_drop this))
    have HtA := Lib.hid htA
    have GA := Lib.hid ((Gr.refl w).alloc (.cells #[.int .i64 6, .int .i64 0, .string ⟨#[]⟩, .string ⟨#[]⟩, .string ⟨#[]⟩, .int .i64 0] 42))
    have KA := Lib.hid (heap_alloc_new w (.cells #[.int .i64 6, .int .i64 0, .string ⟨#[]⟩, .string ⟨#[]⟩, .string ⟨#[]⟩, .int .i64 0] 42))
    obtain ⟨d0, d1, d2, d3, d4, d5, d6, d7, d8, df⟩ := (h.sc.gr GA.out).cells
    have hgP : w.heap.size ≠ P := by have := H.out.sc.lt; omega
    have htv : tv.ownBlock ≠ some w.heap.size := own_apart H.out.t (.inr (Nat.le_refl _))
    have HgP := Lib.hid hgP
    have Htv := Lib.hid htv
    have HL := Lib.hid hL
    have HM1 := Lib.hid hM1
    have Hm := Lib.hid hm
    have Hat := Lib.hid hat
    clear hq h hX hoo hm hbd hle hnl hL hM1 htA hgP htv ho htB hBs
    go_enter Tryz.func74, Tryz.ntmps74
    go_upto_region 13 with (go_at_call 92; refine (HQ.out _).mono ?_; rintro e1 w1 ⟨rfl, rfl⟩)
    go_wp2_with fail
    refine (HT1.out _).mono ?_
    rintro e2 w2 ⟨rfl, g2⟩
    go_wp2_with fail
    refine (HW1.out _).mono ?_
    rintro e3 w3 ⟨rfl, g3⟩
    have G2 := Lib.hid (GA.out.trans (g2.trans g3))
    have K2 := Lib.hid (((g2.trans g3).block _ (Array.getElem?_eq_some_iff.1 KA.out).1).trans KA.out)
    have R2 := Lib.hid (H.out.gr G2.out)
    clear g2 g3 c0 c1 c2 c3 c4 c5 c6 c7 c8 cf d0 d1 d2 d3 d4 d5 d6 d7 d8 df
    obtain ⟨c0, c1, c2, c3, c4, c5, c6, c7, c8, cf⟩ := R2.out.sc.cells
    obtain ⟨kc, kf⟩ := cellsOf K2.out
    have k0 := kc 0
    have k1 := kc 1
    have k2 := kc 2
    have k3 := kc 3
    have k4 := kc 4
    have k5 := kc 5
    simp at k0 k1 k2 k3 k4 k5
    clear kc
    go_wp2_with fail
    have HLk := quo6_lk (G := G) (p := S[at_].1) (o := o) (raw := (byt (S.drop m)).take n) HG6.out
    rw [← HtA.out] at HLk
    have R6 := R2.out.other (j := 2) (u := .string tA) K2.out HgP.out Htv.out
    refine (put_g R6 Hat.out hks (p0 := 0) M1 _ HLk (by decide) rfl).mono ?_
    rintro e5 w5 ⟨rfl, tv', bv', kk, p1, p2⟩
    have HP1 := Lib.hid p1
    have HP2 := Lib.hid p2
    clear p1 p2 HLk R6
    go_wp2_with fail
    go_ret
    rw [HX3.out]
    have F6 : Fr P base w (w3.setCell ⟨w.heap.size, 2, none⟩ (.string tA)) := (Fr.of_but (But.of_gr G2.out) H.out.bw).trans ⟨rfl, rfl, rfl, by simp [World.setCell], fun k hk _ => by
      have : w.heap.size ≠ k := by have := H.out.bw; omega
      simp [World.setCell, Array.getElem?_modify, this]⟩
    refine ⟨rfl, M1, ⟨s, pv, tv', bv', ov, kk, HP1.out, F6.trans HP2.out⟩, ?_, ?_, ?_⟩
    · show S.drop M1 = (S.drop m).drop (n + 1)
      rw [List.drop_drop]; congr 1; have := HM1.out; have := HL.out; omega
    · have := HM1.out; have := HL.out; have := Hm.out; omega
    · have := HM1.out; have := HLL.out; omega
end Go.Proofs.YthmopindibdhnaaGreatDoor.G
namespace Go.Proofs.YthmopindibdhnaaGreatDoor.G
open Go.RowKit Go.Shelf Go.Maps
/-- how many bytes are left of the line -/
def lnN (X : Src) : Nat := (X.takeWhile notNl).length
theorem lnN_le (X : Src) : lnN X ≤ X.length := by
  unfold lnN
  have := (List.takeWhile_prefix (l := X) notNl).length_le
  exact this
theorem takeL : ∀ X : Src, X.takeWhile notNl = X.take (lnN X)
  | [] => rfl
  | x :: t => by
    unfold lnN
    rw [List.takeWhile_cons]
    cases h : notNl x with
    | true =>
      have := takeL t
      unfold lnN at this
      simp [← this]
    | false => simp
theorem dropL : ∀ X : Src, X.dropWhile notNl = X.drop (lnN X)
  | [] => rfl
  | x :: t => by
    unfold lnN
    rw [List.takeWhile_cons, List.dropWhile_cons]
    cases h : notNl x with
    | true =>
      have := dropL t
      unfold lnN at this
      simp [← this]
    | false => simp
variable {S : Src}
theorem ln_on {n : Nat} (h : n < S.length) (hc : S[n].2 ≠ 10) : n + lnN (S.drop n) = (n + 1) + lnN (S.drop (n + 1)) := by
  rw [List.drop_eq_getElem_cons h]
  unfold lnN
  rw [List.takeWhile_cons]
  have : notNl S[n] = true := by unfold notNl; simpa using hc
  rw [this]
  simp
  omega
theorem ln_end {n : Nat} (h : n < S.length) (hc : S[n].2 = 10) : lnN (S.drop n) = 0 := by
  rw [List.drop_eq_getElem_cons h]
  unfold lnN
  rw [List.takeWhile_cons]
  have : notNl S[n] = false := by unfold notNl; simp [hc]
  rw [this]
  rfl
theorem ln_out {n : Nat} (h : S.length ≤ n) : lnN (S.drop n) = 0 := by rw [List.drop_eq_nil_of_le h]; rfl
/-- the lines from a place on, by the place where the one at it ends -/
theorem linesS_at (name : List UInt8) (f : Nat) {n E : Nat} (hn : n < S.length) (hE : E = n + lnN (S.drop n)) :
    linesS name (f + 1) (S.drop n) = if (byt S).extract n E = name then some ([], S.drop (E + 1)) else (linesS name f (S.drop (E + 1))).map fun r => ((byt S).extract n (E + 1) ++ r.1, r.2) := by
  have hne : S.drop n ≠ [] := by
    intro e
    have := congrArg List.length e
    simp at this
    omega
  have e1 : byt ((S.drop n).takeWhile notNl) = (byt S).extract n E := by
    rw [takeL, byt_take, byt_drop, hE, List.extract_eq_take_drop]
    congr 1
    omega
  have e2 : ((S.drop n).dropWhile notNl).drop 1 = S.drop (E + 1) := by
    rw [dropL, List.drop_drop, List.drop_drop, hE]
    try congr 1
    try omega
  have e3 : byt ((S.drop n).takeWhile notNl) ++ byt (((S.drop n).dropWhile notNl).take 1) = (byt S).extract n (E + 1) := by
    rw [takeL, dropL, ← byt_app, List.drop_drop, byt_app, byt_take, byt_drop, byt_take, byt_drop, List.extract_eq_take_drop, ← List.drop_drop]
    rw [show E + 1 - n = lnN (S.drop n) + 1 by omega, List.take_add]
  rw [linesS, if_neg hne, e3, e1, e2]
theorem cutS_at (name : List UInt8) {n E : Nat} (hE : E = n + lnN (S.drop n)) :
    cutS name (S.drop n) = if E < S.length then (linesS name (S.length - E) (S.drop (E + 1))).map (fun r => (r.1, (S.drop n).take (E + 1 - n) ++ r.2)) else none := by
  unfold cutS
  rw [dropL, List.drop_drop, show n + lnN (S.drop n) = E from hE.symm]
  by_cases h : E < S.length
  · rw [if_pos h, List.drop_eq_getElem_cons h, takeL]
    simp only [List.length_drop]
    rw [show S.length - (E + 1) + 1 = S.length - E by omega]
    congr 1
    funext r
    congr 1
    have e4 : (S.drop n).take (E + 1 - n) = (S.drop n).take (lnN (S.drop n)) ++ [S[E]] := by
      rw [show E + 1 - n = lnN (S.drop n) + 1 by omega, List.take_add, List.drop_drop, show n + lnN (S.drop n) = E from hE.symm, List.drop_eq_getElem_cons h]
      rfl
    rw [e4]
    simp
  · rw [if_neg h, List.drop_eq_nil_of_le (by omega)]
end Go.Proofs.YthmopindibdhnaaGreatDoor.G
