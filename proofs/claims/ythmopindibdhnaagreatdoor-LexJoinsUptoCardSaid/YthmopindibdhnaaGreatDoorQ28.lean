import Derived.Test.YthmopindibdhnaaGreatDoorQ00
import Derived.Test.YthmopindibdhnaaGreatDoorQ25
import Derived.Test.YthmopindibdhnaaGreatDoorQ27
namespace Go.Proofs.YthmopindibdhnaaGreatDoor.G
open Go.RowKit Go.Shelf Go.Maps
variable {w w' : World} {P base : Nat} {s : ByteArray} {pv : Value} {at_ : Nat} {tv bv : Value} {tm : Bool} {ov : Value} {en : Nat} {sg : Bool} {G : Prop} {S : Src} {rt : List RTok} {tms : List Bool} {ops : List Nat} {ks : List Tok}
theorem quote_7s {pl : Nat} {d n : Nat} (hd : d < S.length) (h : endN S[d].2 (partU S[d].2) 0 (byt (S.drop (d + 1))) = some n) : quoteS pl 7 (S.drop d) = some (⟨7, pl, 4, (byt (S.drop (d + 1))).take n, [], (byt ((S.drop (d + 1)).drop (n + 1))).take (flagS ((S.drop (d + 1)).drop (n + 1)) flagsP), S[d].2, 0, 0⟩, ((S.drop (d + 1)).drop (n + 1)).drop (flagS ((S.drop (d + 1)).drop (n + 1)) flagsP)) := by
 rw [List.drop_eq_getElem_cons hd]
 simp only [quoteS, part_end, h]
 rfl
theorem quo7_lk {G : Prop} {p : Nat} {o : UInt8} {raw : List UInt8} {R2 : Src} {mo : ByteArray} (hmo : mo.data.toList = (byt R2).take (flagS R2 flagsP)) : Lk G ⟨7, (p : Int), ba (patR raw), ⟨#[]⟩, mo, 0⟩ ⟨7, p, 4, raw, [], (byt R2).take (flagS R2 flagsP), o, 0, 0⟩ := by
 have hmb : mo = ba ((byt R2).take (flagS R2 flagsP)) := ba_eq (by rw [ba_data, hmo])
 refine ⟨rfl, rfl, fun e => absurd (show (7 : Nat) = 3 from e) (by decide), fun _ => ?_⟩
 have e1 : textP ⟨7, p, 4, raw, [], (byt R2).take (flagS R2 flagsP), o, 0, 0⟩ = patR raw := by rw [← ws_eq]; rfl
 unfold rend
 rw [e1, hmb]; rfl
set_option maxRecDepth 100000 in
set_option maxHeartbeats 4000000 in
theorem quote_7 (h : RSt G w P base S at_ true en rt tms ops ks s pv tv bv ov) (hat : at_ < S.length) (hks : ks.length ≤ 4000) (d : Nat) (hd : d < S.length) (ho : delimB S[d].2.toNat = true) :
  Calls Tryz.prog 74 #[.pointer (some ⟨P, 0, none⟩), .int .i64 7, .int .i64 (d : Int)] w (QuoR G P base rt tms ks S ops w d (quoteS S[at_].1 7 (S.drop d))) := by
 obtain ⟨X, hX⟩ : ∃ X, X = quoteS S[at_].1 7 (S.drop d) := ⟨_, rfl⟩
 rw [← hX]
 have HX := Lh hX
 have hsz := h.size
 have hle := h.le
 have HS := Lh h.eq
 have H := Lh h
 have ex := byt_at h.eq d (by omega) hd
 obtain ⟨o, hoo⟩ : ∃ o, o = S[d].2 := ⟨_, rfl⟩
 rw [← hoo] at ho ex
 obtain ⟨m, hm⟩ : ∃ m, m = d + 1 := ⟨_, rfl⟩
 have hm1 : (d : Int) + 1 = (m : Int) := by omega
 have hm2 : (m : Int) ≤ 9223372036854775807 := by omega
 have hm3 : -9223372036854775808 ≤ (m : Int) := by omega
 have hwm : IntKind.i64.wrap (m : Int) = (m : Int) := by rw [IntKind.wrap_i64]; omega
 have hds : (d : Int) < (s.size : Int) := by omega
 have hbd : s.data.toList.drop m = byt (S.drop m) := by rw [HS.out, byt_drop]
 have HQ := Lh (fun w => quoted_r s (by omega) o ho m (by omega) w)
 rw [hbd] at HQ
 obtain ⟨c0, c1, c2, c3, c4, c5, c6, c7, c8, cf⟩ := h.sc.cells
 cases hq : endN o (partU o) 0 (byt (S.drop m)) with
 | none =>
  rw [hq] at HQ
  have HXn : Hid (X = none) := Lh (by rw [HX.out]; exact quote_none hd (by rw [← hoo, ← hm]; exact hq))
  rw [show optI ((none : Option Nat).map (· + m)) = -1 from rfl] at HQ
  clear hq h hX hoo hm hbd hle
  go_enter Tryz.func74, Tryz.ntmps74
  go_wp2_with (go_at_call 92; refine (HQ.out _).mono ?_; rintro e1 w1 ⟨rfl, rfl⟩)
  go_ret
  rw [HXn.out]
  exact ⟨rfl, Gr.refl w⟩
 | some n =>
  rw [hq] at HQ
  have hnl := endN_lt _ _ _ _ _ hq
  rw [byt_len, List.length_drop] at hnl
  have HX3 : Hid (X = some (⟨7, S[at_].1, 4, (byt (S.drop m)).take n, [], (byt ((S.drop m).drop (n + 1))).take (flagS ((S.drop m).drop (n + 1)) flagsP), o, 0, 0⟩, ((S.drop m).drop (n + 1)).drop (flagS ((S.drop m).drop (n + 1)) flagsP))) := Lh (by rw [HX.out, quote_7s hd (by rw [← hoo, ← hm]; exact hq), ← hoo, ← hm])
  obtain ⟨L, hL⟩ : ∃ L, L = n + m := ⟨_, rfl⟩
  rw [show optI ((some n).map (· + m)) = ((n + m : Nat) : Int) from rfl, ← hL] at HQ
  have HLL : Hid (L < S.length) := Lh (by omega)
  have l0 : ¬ (L : Int) < 0 := by omega
  have l1 : (m : Int) ≤ (L : Int) := by omega
  have l2 : (L : Int) ≤ (s.size : Int) := by omega
  have l3 : decide ((L : Int) < 0) = false := decide_eq_false l0
  obtain ⟨M1, hM1⟩ : ∃ M1, M1 = L + 1 := ⟨_, rfl⟩
  have m1 : (L : Int) + 1 = (M1 : Int) := by omega
  have m2 : IntKind.i64.wrap (M1 : Int) = (M1 : Int) := by rw [IntKind.wrap_i64]; omega
  have m1a : (M1 : Int) ≤ 9223372036854775807 := by omega
  have m1b : -9223372036854775808 ≤ (M1 : Int) := by omega
  have HT1 := Lh (fun w => pattern_r (s.extract m L) (by simp [ByteArray.size_extract]; omega) w)
  rw [show (s.extract m L).data.toList = (byt (S.drop m)).take n by rw [extractE, HS.out, byt_drop, hL]; congr 1; omega] at HT1
  obtain ⟨tA, htA⟩ : ∃ tA, tA = ba (patR ((byt (S.drop m)).take n)) := ⟨_, rfl⟩
  rw [← htA] at HT1
  have HtA := Lh htA
  have HF := Lh (fun w => flags_r s ⟨#[105, 109, 115, 120, 103]⟩ (by omega) (by decide) M1 (by omega) w)
  have hfl : flagN s.data.toList M1 (⟨#[105, 109, 115, 120, 103]⟩ : ByteArray).data.toList 0 = flagS (S.drop M1) flagsP := by
   rw [flagN_off, HS.out]; unfold flagS; rw [byt_drop]; rfl
  have hfb := flagN_bd (l := s.data.toList) (a := M1) (⟨#[105, 109, 115, 120, 103]⟩ : ByteArray).data.toList 0 (by rw [sizeL]; omega)
  rw [hfl, sizeL] at hfb
  rw [hfl] at HF
  obtain ⟨n2, hn2⟩ : ∃ n2, n2 = flagS (S.drop M1) flagsP := ⟨_, rfl⟩
  rw [← hn2] at hfb HF
  obtain ⟨M2, hM2⟩ : ∃ M2, M2 = M1 + n2 := ⟨_, rfl⟩
  have m3 : (M1 : Int) + (n2 : Int) = (M2 : Int) := by omega
  have m4 : IntKind.i64.wrap (M2 : Int) = (M2 : Int) := by rw [IntKind.wrap_i64]; omega
  have m5 : (M1 : Int) ≤ (M2 : Int) := by omega
  have m6 : (M2 : Int) ≤ (s.size : Int) := by omega
  have m7 : (M2 : Int) ≤ 9223372036854775807 := by omega
  have m8 : -9223372036854775808 ≤ (M2 : Int) := by omega
  have HM2 := Lh hM2
  have Hn2 := Lh hn2
  have Hbd := Lh hfb
  have Hsz := Lh hsz
  have eM : Hid ((S.drop m).drop (n + 1) = S.drop M1) := Lh (by rw [List.drop_drop]; congr 1; omega)
  rw [eM.out] at HX3
  have GA := Lh ((Gr.refl w).alloc (.cells #[.int .i64 7, .int .i64 0, .string ⟨#[]⟩, .string ⟨#[]⟩, .string ⟨#[]⟩, .int .i64 0] 42))
  have KA := Lh (heap_alloc_new w (.cells #[.int .i64 7, .int .i64 0, .string ⟨#[]⟩, .string ⟨#[]⟩, .string ⟨#[]⟩, .int .i64 0] 42))
  obtain ⟨d0, d1, d2, d3, d4, d5, d6, d7, d8, df⟩ := (h.sc.gr GA.out).cells
  have hgP : w.heap.size ≠ P := by have := H.out.sc.lt; omega
  have htv : tv.ownBlock ≠ some w.heap.size := own_apart H.out.t (.inr (Nat.le_refl _))
  have HgP := Lh hgP
  have Htv := Lh htv
  have HL := Lh hL
  have HM1 := Lh hM1
  have Hm := Lh hm
  have Hat := Lh hat
  clear hq h hX hoo hm hbd hle hnl hL hM1 htA hgP htv ho hM2 hn2 hfb hfl
  go_enter Tryz.func74, Tryz.ntmps74
  go_upto_region 15 with (go_at_call 92; refine (HQ.out _).mono ?_; rintro e1 w1 ⟨rfl, rfl⟩)
  go_wp2_with fail
  refine (HT1.out _).mono ?_
  rintro e2 w2 ⟨rfl, g2⟩
  have G2 := Lh (GA.out.trans g2)
  have K2 := Lh ((g2.block _ (Ag KA.out).1).trans KA.out)
  have R2 := Lh (H.out.gr G2.out)
  clear g2 c0 c1 c2 c3 c4 c5 c6 c7 c8 cf d0 d1 d2 d3 d4 d5 d6 d7 d8 df
  obtain ⟨c0, c1, c2, c3, c4, c5, c6, c7, c8, cf⟩ := R2.out.sc.cells
  obtain ⟨kc, kf⟩ := cellsOf K2.out
  have k0 := kc 0
  have k1 := kc 1
  have k2 := kc 2
  have k3 := kc 3
  have k4 := kc 4
  have k5 := kc 5
  simp at k0 k1 k2 k3 k4 k5
  clear kc
  go_upto_region 19 with fail
  have RY := Lh (R2.out.other (j := 2) (u := .string tA) K2.out HgP.out Htv.out)
  have KY : Hid ((w2.setCell ⟨w.heap.size, 2, none⟩ (.string tA)).heap[w.heap.size]? = some (.cells #[.int .i64 7, .int .i64 0, .string tA, .string ⟨#[]⟩, .string ⟨#[]⟩, .int .i64 0] 42 (0, 0))) := Lh (by simp [World.setCell, Array.getElem?_modify, K2.out])
  have FY : Hid (Fr P base w (w2.setCell ⟨w.heap.size, 2, none⟩ (.string tA))) := Lh ((Fr.of_but (But.of_gr G2.out) H.out.bw).trans ⟨rfl, rfl, rfl, by simp [World.setCell], fun k hk _ => by
   have : w.heap.size ≠ k := by have := H.out.bw; omega
   simp [World.setCell, Array.getElem?_modify, this]⟩)
  generalize hY : w2.setCell ⟨w.heap.size, 2, none⟩ (.string tA) = Y at *
  clear hY k0 k1 k2 k3 k4 k5 kf c0 c1 c2 c3 c4 c5 c6 c7 c8 cf
  obtain ⟨c0, c1, c2, c3, c4, c5, c6, c7, c8, cf⟩ := RY.out.sc.cells
  obtain ⟨kc, kf⟩ := cellsOf KY.out
  have k0 := kc 0
  have k1 := kc 1
  have k2 := kc 2
  have k3 := kc 3
  have k4 := kc 4
  have k5 := kc 5
  simp at k0 k1 k2 k3 k4 k5
  clear kc
  go_wp2_with (go_at_call 97; refine (HF.out _).mono ?_; rintro e4 w4 ⟨rfl, g4⟩; have R4 := Lh (RY.out.gr g4); have K4 := Lh ((g4.block _ (Ag KY.out).1).trans KY.out); have F4 := Lh (FY.out.trans (Fr.of_but (But.of_gr g4) RY.out.bw)); obtain ⟨d0, d1, d2, d3, d4, d5, d6, d7, d8, df⟩ := R4.out.sc.cells; obtain ⟨kd, kg⟩ := cellsOf K4.out; have j0 := kd 0; have j1 := kd 1; have j2 := kd 2; have j3 := kd 3; have j4 := kd 4; have j5 := kd 5; simp at j0 j1 j2 j3 j4 j5; clear kd g4)
  have hmo : (s.extract M1 M2).data.toList = (byt (S.drop M1)).take (flagS (S.drop M1) flagsP) := by
   rw [extractE, HS.out, byt_drop, ← Hn2.out, HM2.out]; congr 1; omega
  have HLk := quo7_lk (G := G) (p := S[at_].1) (o := o) (raw := (byt (S.drop m)).take n) hmo
  rw [← HtA.out] at HLk
  have R6 := R4.out.other (j := 4) (u := .string (s.extract M1 M2)) K4.out HgP.out Htv.out
  refine (put_g R6 Hat.out hks (p0 := 0) M2 _ HLk (by decide) rfl).mono ?_
  rintro e5 w5 ⟨rfl, tv', bv', kk, p1, p2⟩
  have HP1 := Lh p1
  have HP2 := Lh p2
  clear p1 p2 hmo HLk R6
  go_wp2_with fail
  go_ret
  rw [HX3.out]
  have F6 : Fr P base w (w4.setCell ⟨w.heap.size, 4, none⟩ (.string (s.extract M1 M2))) := F4.out.trans ⟨rfl, rfl, rfl, by simp [World.setCell], fun k hk _ => by
   have : w.heap.size ≠ k := by have := H.out.bw; omega
   simp [World.setCell, Array.getElem?_modify, this]⟩
  refine ⟨rfl, M2, ⟨s, pv, tv', bv', ov, kk, HP1.out, F6.trans HP2.out⟩, ?_, ?_, ?_⟩
  ·show S.drop M2 = (S.drop M1).drop (flagS (S.drop M1) flagsP)
   rw [← Hn2.out, List.drop_drop, HM2.out]
  ·have := HM1.out; have := HM2.out; have := HL.out; have := Hm.out; omega
  ·have := Hbd.out; have := HM2.out; have := Hsz.out; omega
end Go.Proofs.YthmopindibdhnaaGreatDoor.G
namespace Go.Proofs.YthmopindibdhnaaGreatDoor.G
open Go.RowKit Go.Shelf Go.Maps
variable {w w' : World} {P base : Nat} {s : ByteArray} {pv : Value} {at_ : Nat} {tv bv : Value} {tm : Bool} {ov : Value} {en : Nat} {sg : Bool} {G : Prop} {S : Src} {rt : List RTok} {tms : List Bool} {ops : List Nat} {ks : List Tok}
theorem quote_8s {pl : Nat} {d n : Nat} (hd : d < S.length) (h : endN S[d].2 (partU S[d].2) 0 (byt (S.drop (d + 1))) = some n) : quoteS pl 8 (S.drop d) = (secondS S[d].2 ((S.drop (d + 1)).drop (n + 1))).map fun r => (quoT 8 pl ((byt (S.drop (d + 1))).take n) S[d].2 r.1 r.2.1 r.2.2, r.2.2.drop (quoF 8 r.2.2)) := by
 rw [List.drop_eq_getElem_cons hd]
 simp only [quoteS, part_end, h, Option.map_some]
 rw [if_neg (by decide), if_neg (by decide), if_neg (by decide), if_neg (by decide)]
 cases secondS S[d].2 ((S.drop (d + 1)).drop (n + 1)) <;> rfl
set_option maxRecDepth 100000 in
set_option maxHeartbeats 4000000 in
theorem quote_8 (h : RSt G w P base S at_ true en rt tms ops ks s pv tv bv ov) (hat : at_ < S.length) (hks : ks.length ≤ 4000) (d : Nat) (hd : d < S.length) (ho : delimB S[d].2.toNat = true) :
  Calls Tryz.prog 74 #[.pointer (some ⟨P, 0, none⟩), .int .i64 8, .int .i64 (d : Int)] w (QuoR G P base rt tms ks S ops w d (quoteS S[at_].1 8 (S.drop d))) := by
 obtain ⟨X, hX⟩ : ∃ X, X = quoteS S[at_].1 8 (S.drop d) := ⟨_, rfl⟩
 rw [← hX]
 have HX := Lh hX
 have hsz := h.size
 have hle := h.le
 have HS := Lh h.eq
 have H := Lh h
 have ex := byt_at h.eq d (by omega) hd
 obtain ⟨o, hoo⟩ : ∃ o, o = S[d].2 := ⟨_, rfl⟩
 rw [← hoo] at ho ex
 obtain ⟨m, hm⟩ : ∃ m, m = d + 1 := ⟨_, rfl⟩
 have hm1 : (d : Int) + 1 = (m : Int) := by omega
 have hm2 : (m : Int) ≤ 9223372036854775807 := by omega
 have hm3 : -9223372036854775808 ≤ (m : Int) := by omega
 have hwm : IntKind.i64.wrap (m : Int) = (m : Int) := by rw [IntKind.wrap_i64]; omega
 have hds : (d : Int) < (s.size : Int) := by omega
 have hbd : s.data.toList.drop m = byt (S.drop m) := by rw [HS.out, byt_drop]
 have HQ := Lh (fun w => quoted_r s (by omega) o ho m (by omega) w)
 rw [hbd] at HQ
 obtain ⟨c0, c1, c2, c3, c4, c5, c6, c7, c8, cf⟩ := h.sc.cells
 cases hq : endN o (partU o) 0 (byt (S.drop m)) with
 | none =>
  rw [hq] at HQ
  have HXn : Hid (X = none) := Lh (by rw [HX.out]; exact quote_none hd (by rw [← hoo, ← hm]; exact hq))
  rw [show optI ((none : Option Nat).map (· + m)) = -1 from rfl] at HQ
  clear hq h hX hoo hm hbd hle
  go_enter Tryz.func74, Tryz.ntmps74
  go_wp2_with (go_at_call 92; refine (HQ.out _).mono ?_; rintro e1 w1 ⟨rfl, rfl⟩)
  go_ret
  rw [HXn.out]
  exact ⟨rfl, Gr.refl w⟩
 | some n =>
  rw [hq] at HQ
  have hnl := endN_lt _ _ _ _ _ hq
  rw [byt_len, List.length_drop] at hnl
  obtain ⟨L, hL⟩ : ∃ L, L = n + m := ⟨_, rfl⟩
  rw [show optI ((some n).map (· + m)) = ((n + m : Nat) : Int) from rfl, ← hL] at HQ
  have HLL : Hid (L < S.length) := Lh (by omega)
  have HX3 : Hid (X = (secondS o (S.drop (L + 1))).map fun r => (quoT 8 S[at_].1 ((byt (S.drop m)).take n) o r.1 r.2.1 r.2.2, r.2.2.drop (quoF 8 r.2.2))) := Lh (by rw [HX.out, quote_8s hd (by rw [← hoo, ← hm]; exact hq), ← hoo, ← hm, List.drop_drop, show m + (n + 1) = L + 1 by omega])
  have l0 : ¬ (L : Int) < 0 := by omega
  have l1 : (m : Int) ≤ (L : Int) := by omega
  have l2 : (L : Int) ≤ (s.size : Int) := by omega
  have l3 : decide ((L : Int) < 0) = false := decide_eq_false l0
  have hext : (s.extract m L).data.toList = (byt (S.drop m)).take n := by rw [extractE, HS.out, byt_drop, hL]; congr 1; omega
  have HSec := Lh (fun (W : World) (gW : Gr w W) => second_8 (h.gr gW) hat hks o ho (s.extract m L) (by simp [ByteArray.size_extract]; omega) L HLL.out)
  rw [hext] at HSec
  have GA := Lh ((Gr.refl w).alloc (.cells #[.int .i64 8, .int .i64 0, .string ⟨#[]⟩, .string ⟨#[]⟩, .string ⟨#[]⟩, .int .i64 0] 42))
  have KA := Lh (heap_alloc_new w (.cells #[.int .i64 8, .int .i64 0, .string ⟨#[]⟩, .string ⟨#[]⟩, .string ⟨#[]⟩, .int .i64 0] 42))
  have hgP : w.heap.size ≠ P := by have := H.out.sc.lt; omega
  have htv : tv.ownBlock ≠ some w.heap.size := own_apart H.out.t (.inr (Nat.le_refl _))
  have HgP := Lh hgP
  have Htv := Lh htv
  have HL := Lh hL
  have Hm := Lh hm
  have Hat := Lh hat
  clear hq h hX hoo hm hbd hle hnl hL hext hgP htv ho
  go_enter Tryz.func74, Tryz.ntmps74
  obtain ⟨d0, d1, d2, d3, d4, d5, d6, d7, d8, df⟩ := (H.out.sc.gr GA.out).cells
  obtain ⟨kc, kf⟩ := cellsOf KA.out
  have k0 := kc 0
  have k1 := kc 1
  have k2 := kc 2
  have k3 := kc 3
  have k4 := kc 4
  have k5 := kc 5
  simp at k0 k1 k2 k3 k4 k5
  clear kc
  go_wp2_with (go_at_call 92; refine (HQ.out _).mono ?_; rintro e1 w1 ⟨rfl, rfl⟩)
  refine (HSec.out _ GA.out).mono ?_
  intro e2 w2 hr2
  cases hs2 : secondS o (S.drop (L + 1)) with
  | none =>
   rw [hs2] at hr2 HX3
   obtain ⟨rfl, g2⟩ := hr2
   have HXn : Hid (X = none) := Lh HX3.out
   have G2 := Lh (GA.out.trans g2)
   clear g2 hs2
   go_wp2_with fail
   go_ret
   rw [HXn.out]
   exact ⟨rfl, G2.out⟩
  | some r =>
   rw [hs2] at hr2 HX3
   obtain ⟨rfl, b, p1, p2, p3, p4⟩ := hr2
   have HP1 := Lh (putP_from GA.out H.out.bw p1)
   have HP2 := Lh p2
   have HP3 := Lh p3
   have HP4 := Lh p4
   clear p1 p2 p3 p4 hs2
   go_wp2_with fail
   go_ret
   rw [HX3.out]
   exact ⟨rfl, b, HP1.out, HP2.out, by have := HP3.out; have := HL.out; have := Hm.out; omega, HP4.out⟩
theorem quote_9s {pl : Nat} {d n : Nat} (hd : d < S.length) (h : endN S[d].2 (partU S[d].2) 0 (byt (S.drop (d + 1))) = some n) : quoteS pl 9 (S.drop d) = (secondS S[d].2 ((S.drop (d + 1)).drop (n + 1))).map fun r => (quoT 9 pl ((byt (S.drop (d + 1))).take n) S[d].2 r.1 r.2.1 r.2.2, r.2.2.drop (quoF 9 r.2.2)) := by
 rw [List.drop_eq_getElem_cons hd]
 simp only [quoteS, part_end, h, Option.map_some]
 rw [if_neg (by decide), if_neg (by decide), if_neg (by decide), if_neg (by decide)]
 cases secondS S[d].2 ((S.drop (d + 1)).drop (n + 1)) <;> rfl
set_option maxRecDepth 100000 in
set_option maxHeartbeats 4000000 in
theorem quote_9 (h : RSt G w P base S at_ true en rt tms ops ks s pv tv bv ov) (hat : at_ < S.length) (hks : ks.length ≤ 4000) (d : Nat) (hd : d < S.length) (ho : delimB S[d].2.toNat = true) :
  Calls Tryz.prog 74 #[.pointer (some ⟨P, 0, none⟩), .int .i64 9, .int .i64 (d : Int)] w (QuoR G P base rt tms ks S ops w d (quoteS S[at_].1 9 (S.drop d))) := by
 obtain ⟨X, hX⟩ : ∃ X, X = quoteS S[at_].1 9 (S.drop d) := ⟨_, rfl⟩
 rw [← hX]
 have HX := Lh hX
 have hsz := h.size
 have hle := h.le
 have HS := Lh h.eq
 have H := Lh h
 have ex := byt_at h.eq d (by omega) hd
 obtain ⟨o, hoo⟩ : ∃ o, o = S[d].2 := ⟨_, rfl⟩
 rw [← hoo] at ho ex
 obtain ⟨m, hm⟩ : ∃ m, m = d + 1 := ⟨_, rfl⟩
 have hm1 : (d : Int) + 1 = (m : Int) := by omega
 have hm2 : (m : Int) ≤ 9223372036854775807 := by omega
 have hm3 : -9223372036854775808 ≤ (m : Int) := by omega
 have hwm : IntKind.i64.wrap (m : Int) = (m : Int) := by rw [IntKind.wrap_i64]; omega
 have hds : (d : Int) < (s.size : Int) := by omega
 have hbd : s.data.toList.drop m = byt (S.drop m) := by rw [HS.out, byt_drop]
 have HQ := Lh (fun w => quoted_r s (by omega) o ho m (by omega) w)
 rw [hbd] at HQ
 obtain ⟨c0, c1, c2, c3, c4, c5, c6, c7, c8, cf⟩ := h.sc.cells
 cases hq : endN o (partU o) 0 (byt (S.drop m)) with
 | none =>
  rw [hq] at HQ
  have HXn : Hid (X = none) := Lh (by rw [HX.out]; exact quote_none hd (by rw [← hoo, ← hm]; exact hq))
  rw [show optI ((none : Option Nat).map (· + m)) = -1 from rfl] at HQ
  clear hq h hX hoo hm hbd hle
  go_enter Tryz.func74, Tryz.ntmps74
  go_wp2_with (go_at_call 92; refine (HQ.out _).mono ?_; rintro e1 w1 ⟨rfl, rfl⟩)
  go_ret
  rw [HXn.out]
  exact ⟨rfl, Gr.refl w⟩
 | some n =>
  rw [hq] at HQ
  have hnl := endN_lt _ _ _ _ _ hq
  rw [byt_len, List.length_drop] at hnl
  obtain ⟨L, hL⟩ : ∃ L, L = n + m := ⟨_, rfl⟩
  rw [show optI ((some n).map (· + m)) = ((n + m : Nat) : Int) from rfl, ← hL] at HQ
  have HLL : Hid (L < S.length) := Lh (by omega)
  have HX3 : Hid (X = (secondS o (S.drop (L + 1))).map fun r => (quoT 9 S[at_].1 ((byt (S.drop m)).take n) o r.1 r.2.1 r.2.2, r.2.2.drop (quoF 9 r.2.2))) := Lh (by rw [HX.out, quote_9s hd (by rw [← hoo, ← hm]; exact hq), ← hoo, ← hm, List.drop_drop, show m + (n + 1) = L + 1 by omega])
  have l0 : ¬ (L : Int) < 0 := by omega
  have l1 : (m : Int) ≤ (L : Int) := by omega
  have l2 : (L : Int) ≤ (s.size : Int) := by omega
  have l3 : decide ((L : Int) < 0) = false := decide_eq_false l0
  have hext : (s.extract m L).data.toList = (byt (S.drop m)).take n := by rw [extractE, HS.out, byt_drop, hL]; congr 1; omega
  have HSec := Lh (fun (W : World) (gW : Gr w W) => second_9 (h.gr gW) hat hks o ho (s.extract m L) (by simp [ByteArray.size_extract]; omega) L HLL.out)
  rw [hext] at HSec
  have GA := Lh ((Gr.refl w).alloc (.cells #[.int .i64 9, .int .i64 0, .string ⟨#[]⟩, .string ⟨#[]⟩, .string ⟨#[]⟩, .int .i64 0] 42))
  have KA := Lh (heap_alloc_new w (.cells #[.int .i64 9, .int .i64 0, .string ⟨#[]⟩, .string ⟨#[]⟩, .string ⟨#[]⟩, .int .i64 0] 42))
  have hgP : w.heap.size ≠ P := by have := H.out.sc.lt; omega
  have htv : tv.ownBlock ≠ some w.heap.size := own_apart H.out.t (.inr (Nat.le_refl _))
  have HgP := Lh hgP
  have Htv := Lh htv
  have HL := Lh hL
  have Hm := Lh hm
  have Hat := Lh hat
  clear hq h hX hoo hm hbd hle hnl hL hext hgP htv ho
  go_enter Tryz.func74, Tryz.ntmps74
  obtain ⟨d0, d1, d2, d3, d4, d5, d6, d7, d8, df⟩ := (H.out.sc.gr GA.out).cells
  obtain ⟨kc, kf⟩ := cellsOf KA.out
  have k0 := kc 0
  have k1 := kc 1
  have k2 := kc 2
  have k3 := kc 3
  have k4 := kc 4
  have k5 := kc 5
  simp at k0 k1 k2 k3 k4 k5
  clear kc
  go_wp2_with (go_at_call 92; refine (HQ.out _).mono ?_; rintro e1 w1 ⟨rfl, rfl⟩)
  refine (HSec.out _ GA.out).mono ?_
  intro e2 w2 hr2
  cases hs2 : secondS o (S.drop (L + 1)) with
  | none =>
   rw [hs2] at hr2 HX3
   obtain ⟨rfl, g2⟩ := hr2
   have HXn : Hid (X = none) := Lh HX3.out
   have G2 := Lh (GA.out.trans g2)
   clear g2 hs2
   go_wp2_with fail
   go_ret
   rw [HXn.out]
   exact ⟨rfl, G2.out⟩
  | some r =>
   rw [hs2] at hr2 HX3
   obtain ⟨rfl, b, p1, p2, p3, p4⟩ := hr2
   have HP1 := Lh (putP_from GA.out H.out.bw p1)
   have HP2 := Lh p2
   have HP3 := Lh p3
   have HP4 := Lh p4
   clear p1 p2 p3 p4 hs2
   go_wp2_with fail
   go_ret
   rw [HX3.out]
   exact ⟨rfl, b, HP1.out, HP2.out, by have := HP3.out; have := HL.out; have := Hm.out; omega, HP4.out⟩
end Go.Proofs.YthmopindibdhnaaGreatDoor.G
namespace Go.Proofs.YthmopindibdhnaaGreatDoor.G
open Go.RowKit Go.Shelf Go.Maps
variable {w w' : World} {P base : Nat} {s : ByteArray} {pv : Value} {at_ : Nat} {tv bv : Value} {tm : Bool} {ov : Value} {en : Nat} {sg : Bool} {G : Prop} {S : Src} {rt : List RTok} {tms : List Bool} {ops : List Nat} {ks : List Tok}
def herT (more : Bool) (pl : Nat) (raw : List UInt8) : RTok := ⟨if more = true then 5 else 4, pl, if more = true then 7 else 0, raw, [], [], 0, 0, 0⟩
def specS (R : Src) : Option (Option (RTok × Src)) :=
 match hereS (byt R) with
 | some (n, name, more) => (cutS name (R.drop n)).map fun r => some (herT more (place R) r.1, r.2)
 | none => match quoteL (byt R) with
  | some (k, n) => (quoteS (place R) k (R.drop n)).map some
  | none => match varS true (byt R) with
   | none => none
   | some 0 => some (if sgnB (byt R) = true then some (asIs 3 1 R) else none)
   | some (n + 1) => some (some (asIs 2 (n + 1) R))
theorem sign_noX {k : List UInt8} (h : (36 : UInt8) ∈ k ∨ ((123 : UInt8) ∈ k ∧ 2 ≤ k.length)) : isSignB k = false := by
 unfold isSignB
 cases hb : signsL.contains k with
 | false => rfl
 | true =>
  exfalso
  rw [List.contains_iff_mem] at hb
  have h1 : ∀ s ∈ signsL, ¬ ((36 : UInt8) ∈ s ∨ ((123 : UInt8) ∈ s ∧ 2 ≤ s.length)) := by decide
  exact h1 k hb h
theorem sign_sgn {c d : UInt8} {t : List UInt8} (hd : d = 36 ∨ d = 123) : signN (c :: d :: t) = signGo (c :: d :: t) 1 := by
 have hx : ∀ u : List UInt8, isSignB (c :: d :: u) = false := fun u => sign_noX (by
  rcases hd with rfl | rfl
  ·exact .inl (by simp)
  ·exact .inr ⟨by simp, by simp⟩)
 unfold signN
 cases t with
 | nil =>
  show signGo _ 2 = _
  rw [signGo, if_neg (by rw [show (c :: d :: ([] : List UInt8)).take 2 = c :: d :: [] from rfl, hx]; decide)]
 | cons x u =>
  have : min 3 (c :: d :: x :: u).length = 3 := by simp
  rw [this, signGo, if_neg (by rw [show (c :: d :: x :: u).take 3 = c :: d :: [x] from rfl, hx]; decide), signGo, if_neg (by rw [show (c :: d :: x :: u).take 2 = c :: d :: [] from rfl, hx]; decide)]
theorem signS_sgn {B : List UInt8} (h : sgnB B = true) : signS B true = 1 := by
 match B, h with
 | c :: d :: t, h =>
  rw [sgnB_2] at h
  simp only [Bool.and_eq_true, Bool.or_eq_true, beq_iff_eq] at h
  obtain ⟨hs, hd⟩ := h
  unfold signS
  rw [sign_sgn hd]
  rcases sig_eq hs with rfl | rfl | rfl | rfl
  ·rw [show signGo (36 :: d :: t) 1 = 0 from rfl, if_neg (by decide), if_pos ⟨rfl, .inl rfl, by rcases hd with rfl | rfl <;> simp⟩]
  ·rw [show signGo (64 :: d :: t) 1 = 0 from rfl, if_neg (by decide), if_pos ⟨rfl, .inr rfl, by rcases hd with rfl | rfl <;> simp⟩]
  ·rw [show signGo (37 :: d :: t) 1 = 1 from rfl, if_pos (by decide)]
  ·rw [show signGo (38 :: d :: t) 1 = 1 from rfl, if_pos (by decide)]
theorem signS_no {B : List UInt8} (h : sgnB B = false) (b : Bool) : signS B b = signN B := by
 unfold signS
 by_cases h0 : 0 < signN B
 ·rw [if_pos h0]
 ·rw [if_neg h0, if_neg]
  ·omega
  ·rintro ⟨_, h1, h2⟩
   match B, h1, h2 with
   | c :: d :: t, h1, h2 =>
    rw [sgnB_2] at h
    simp at h1 h2
    rcases h1 with rfl | rfl <;> rcases h2 with rfl | rfl <;> exact absurd h (by decide)
   | [c], _, h2 => simp at h2
theorem plainS_sgn {R : Src} (h : sgnB (byt R) = true) : plainS R true = some (asIs 3 1 R) := by
 match R, h with
 | x :: R, h =>
  have hs := signS_sgn h
  have hx : sigilB (x.2.toNat : Int) = true := by
   rw [byt_cons] at h
   cases hb : byt R with
   | nil => rw [hb] at h; exact absurd h (by simp [sgnB])
   | cons d t => rw [hb, sgnB_2] at h; simp at h; exact h.1
  obtain ⟨h1, h2⟩ := (byte_facts x.2).2 hx
  unfold plainS
  simp only [h1, h2, hs]
  rfl
theorem quoteL_60 (t : List UInt8) : quoteL (60 :: t) = none := rfl
theorem here_head {B : List UInt8} {r : Nat × List UInt8 × Bool} (h : hereS B = some r) : quoteL B = none := by
 unfold hereS at h
 split at h
 ·rename_i hc
  match B, hc with
  | c :: t, hc => simp at hc; rw [hc.1]; rfl
  | [], hc => simp at hc
 ·cases h
theorem next_term (R : Src) : nextS true R true = match specS R with
  | none => none
  | some none => plainS R true
  | some (some r) => some r := by
 unfold nextS specS
 rw [if_pos rfl]
 cases hh : hereS (byt R) with
 | some r =>
  obtain ⟨n, name, more⟩ := r
  rw [here_head hh]
  simp only
  cases cutS name (R.drop n) <;> rfl
 | none =>
  cases hq : quoteL (byt R) with
  | some r =>
   obtain ⟨k, n⟩ := r
   simp only
   cases quoteS (place R) k (R.drop n) <;> rfl
  | none =>
   simp only
   cases hv : varS true (byt R) with
   | none => rfl
   | some m =>
    cases m with
    | succ m => rfl
    | zero =>
     simp only
     cases hb : sgnB (byt R) with
     | true => rw [if_pos rfl]; exact plainS_sgn hb
     | false => rfl
theorem byt_sub {A B : Src} (h : A ⊆ B) : ∀ c ∈ byt A, c ∈ byt B := fun c hc => by
 unfold byt at hc ⊢
 obtain ⟨x, hx, rfl⟩ := List.mem_map.1 hc
 exact List.mem_map.2 ⟨x, h hx, rfl⟩
theorem lines_sub (name : List UInt8) : ∀ (f : Nat) (R : Src) (r : List UInt8 × Src), linesS name f R = some r → (∀ c ∈ r.1, c ∈ byt R) ∧ r.1.length + r.2.length ≤ R.length
 | 0, R, r, h => by rw [linesS] at h; cases h
 | f + 1, R, r, h => by
  rw [linesS] at h
  have hd1 : R.dropWhile notNl ⊆ R := (List.dropWhile_suffix (l := R) notNl).subset
  have hd2 : (R.dropWhile notNl).length ≤ R.length := (List.dropWhile_suffix (l := R) notNl).length_le
  have ht1 : R.takeWhile notNl ⊆ R := (List.takeWhile_prefix (l := R) notNl).subset
  split at h
  ·cases h
  ·split at h
   ·cases h
    exact ⟨fun c hc => (nomatch hc), by simp; omega⟩
   ·cases hr : linesS name f ((R.dropWhile notNl).drop 1) with
    | none => rw [hr] at h; cases h
    | some q =>
     rw [hr] at h
     cases h
     obtain ⟨h1, h2⟩ := lines_sub name f _ q hr
     refine ⟨fun c hc => ?_, ?_⟩
     ·simp only [List.mem_append] at hc
      rcases hc with (hc | hc) | hc
      ·exact byt_sub ht1 c hc
      ·exact byt_sub (fun x hx => hd1 (List.mem_of_mem_take hx)) c hc
      ·exact byt_sub (fun x hx => hd1 (List.mem_of_mem_drop hx)) c (h1 c hc)
     ·have hl : (R.takeWhile notNl).length + (R.dropWhile notNl).length = R.length := by
       have := congrArg List.length (List.takeWhile_append_dropWhile (p := notNl) (l := R))
       rw [List.length_append] at this; exact this
      simp at h2 ⊢; omega
theorem cut_sub {name : List UInt8} {R : Src} {r : List UInt8 × Src} (h : cutS name R = some r) : (∀ c ∈ r.1, c ∈ byt R) ∧ r.1.length + r.2.length ≤ R.length := by
 unfold cutS at h
 have hd1 : R.dropWhile notNl ⊆ R := (List.dropWhile_suffix (l := R) notNl).subset
 have hl : (R.takeWhile notNl).length + (R.dropWhile notNl).length = R.length := by
  have := congrArg List.length (List.takeWhile_append_dropWhile (p := notNl) (l := R))
  rw [List.length_append] at this; exact this
 cases hd : R.dropWhile notNl with
 | nil => rw [hd] at h; cases h
 | cons x t =>
  rw [hd] at h hd1 hl
  simp only at h
  cases hr : linesS name (t.length + 1) t with
  | none => rw [hr] at h; cases h
  | some q =>
   rw [hr] at h
   cases h
   obtain ⟨h1, h2⟩ := lines_sub name _ _ q hr
   refine ⟨fun c hc => byt_sub (fun y hy => hd1 (List.mem_cons_of_mem _ hy)) c (h1 c hc), ?_⟩
   simp at hl ⊢
   omega
theorem hereL_le {B : List UInt8} {r : Nat × List UInt8 × Bool} (h : hereL B = some r) : 1 ≤ r.1 ∧ r.1 ≤ B.length := by
 unfold hereL at h
 have hw := wordN_le B
 split at h
 ·split at h
  ·cases h; exact ⟨by omega, hw⟩
  ·cases h
 ·split at h
  ·cases h
  ·split at h
   ·rename_i q hq hc
    cases h
    obtain ⟨_, h1, _, h3⟩ := hc
    obtain ⟨h4, _⟩ := List.getElem?_eq_some_iff.1 h3
    simp only [List.length_drop] at h4
    exact ⟨by show 1 ≤ 2 + _; omega, by show 2 + _ ≤ _; omega⟩
   ·cases h
theorem here_le {B : List UInt8} {r : Nat × List UInt8 × Bool} (h : hereS B = some r) : 3 ≤ r.1 ∧ r.1 ≤ B.length := by
 unfold hereS at h
 split at h
 ·cases hr : hereL (B.drop 2) with
  | none => rw [hr] at h; cases h
  | some q =>
   rw [hr] at h
   cases h
   obtain ⟨h1, h2⟩ := hereL_le hr
   simp only [List.length_drop] at h2
   exact ⟨by show 3 ≤ 2 + _; omega, by show 2 + _ ≤ _; omega⟩
 ·cases h
theorem her_lk0 {p : Nat} {raw : List UInt8} : Lk G ⟨4, (p : Int), ba raw, ⟨#[]⟩, ⟨#[]⟩, 0⟩ (herT false p raw) :=
 ⟨rfl, rfl, fun e => absurd (show (4 : Nat) = 3 from e) (by decide), fun _ => rfl⟩
theorem her_lk1 {p : Nat} {raw : List UInt8} (h : G → ∀ c ∈ raw, ownC c = true) : Lk G ⟨5, (p : Int), ba (inR 0 0 false raw), ⟨#[]⟩, ⟨#[]⟩, 0⟩ (herT true p raw) := by
 refine ⟨rfl, rfl, fun e => absurd (show (5 : Nat) = 3 from e) (by decide), fun hg => ?_⟩
 have h0 : ∀ c ∈ raw, c ≠ 0 := fun c hc e => by
  have := h hg c hc
  rw [e] at this
  exact absurd this (by decide)
 have e1 : textP (herT true p raw) = inR 0 0 false raw := by rw [← here_eq raw h0]; rfl
 unfold rend
 rw [e1]; rfl
theorem quoteL_word {B : List UInt8} {c : UInt8} (hn : 0 < wordN B) (hc : B[wordN B]? = some c) (hd : delimB c.toNat = true) : quoteL B = if 0 ≤ kindI (B.take (wordN B)) then some (kindI (B.take (wordN B)), wordN B) else none := by
 unfold quoteL
 rw [hc]
 simp only [hd, if_true]
 have hw : wordOr B = B.take (wordN B) := by unfold wordOr; rw [if_neg (by omega)]
 rw [hw]
 obtain ⟨a, t, hB⟩ : ∃ a t, B = a :: t := by
  match B, hn with
  | a :: t, _ => exact ⟨a, t, rfl⟩
 have ha : alphaB (a.toNat : Int) = true := by rw [hB] at hn; exact word_head hn
 have hne : ∀ d : UInt8, alphaB (d.toNat : Int) = false → B.take (wordN B) ≠ [d] := by
  intro d hd e
  rw [hB] at e hn
  obtain ⟨m, hm⟩ : ∃ m, wordN (a :: t) = m + 1 := ⟨wordN (a :: t) - 1, by omega⟩
  rw [hm, List.take_succ_cons] at e
  injection e with e _
  rw [e] at ha
  rw [ha] at hd
  cases hd
 have n39 := hne 39 (by decide)
 have n34 := hne 34 (by decide)
 have n47 := hne 47 (by decide)
 generalize B.take (wordN B) = T at *
 unfold kindL kindI
 have b39 : (T == [39]) = false := by simpa using n39
 have b34 : (T == [34]) = false := by simpa using n34
 have b47 : (T == [47]) = false := by simpa using n47
 simp only [b39, b34, b47, Bool.or_false, beq_iff_eq]
 repeat' split
 all_goals first | rfl | (exfalso; omega) | simp_all
theorem quoteL_none {B : List UInt8} (h : ∀ c, B[wordN B]? = some c → delimB c.toNat = false) : quoteL B = none := by
 unfold quoteL
 cases hc : B[wordN B]? with
 | none => rfl
 | some c => simp only [h c hc]; rfl
theorem quoteL_other {a : UInt8} {t : List UInt8} (ha : wordN (a :: t) = 0) (h : a ≠ 39 ∧ a ≠ 34 ∧ a ≠ 47) : quoteL (a :: t) = none := by
 have hal : alphaB (a.toNat : Int) = false := by
  cases hx : alphaB (a.toNat : Int) with
  | false => rfl
  | true =>
   exfalso
   have : 0 < wordN (a :: t) := by
    unfold wordN
    simp only [List.getElem?_cons_zero, hx, if_true]
    have := (wordR_le (l := a :: t) (a :: t).length 1 (by simp)).2
    omega
   omega
 unfold quoteL
 rw [ha]
 simp only [List.getElem?_cons_zero]
 split
 ·unfold wordOr
  rw [if_pos ha]
  show Option.map _ (kindL [a]) = none
  have h1 : kindL [a] = none := by
   have hne : ∀ d : UInt8, alphaB (d.toNat : Int) = true → a ≠ d := fun d hd e => by rw [e, hd] at hal; cases hal
   have n1 := hne 113 (by decide)
   have n2 := hne 109 (by decide)
   have n3 := hne 115 (by decide)
   unfold kindL
   simp [n1, n2, n3, h.1, h.2.1, h.2.2]
  rw [h1]; rfl
 ·rfl
theorem kindI_is (l : List UInt8) : kindI l = -1 ∨ kindI l = 4 ∨ kindI l = 5 ∨ kindI l = 6 ∨ kindI l = 7 ∨ kindI l = 8 ∨ kindI l = 9 := by
 unfold kindI
 repeat' split
 all_goals simp
theorem quote_no_way {a : UInt8} {t : List UInt8} (h : quoteL (a :: t) = none) : (a ≠ 39 ∧ a ≠ 34 ∧ a ≠ 47) ∧ (wordN (a :: t) = 0 ∨ (0 < wordN (a :: t) ∧ (a :: t).length ≤ wordN (a :: t)) ∨ ∃ c, 0 < wordN (a :: t) ∧ (a :: t)[wordN (a :: t)]? = some c ∧ (delimB c.toNat = false ∨ (delimB c.toNat = true ∧ kindI ((a :: t).take (wordN (a :: t))) = -1))) := by
 refine ⟨⟨?_, ?_, ?_⟩, ?_⟩
 ·rintro rfl; exact absurd h (by rw [show quoteL (39 :: t) = some (4, 0) from rfl]; simp)
 ·rintro rfl; exact absurd h (by rw [show quoteL (34 :: t) = some (5, 0) from rfl]; simp)
 ·rintro rfl; exact absurd h (by rw [show quoteL (47 :: t) = some (7, 0) from rfl]; simp)
 ·by_cases h0 : wordN (a :: t) = 0
  ·exact .inl h0
  ·by_cases hl : (a :: t).length ≤ wordN (a :: t)
   ·exact .inr (.inl ⟨by omega, hl⟩)
   ·have hc : (a :: t)[wordN (a :: t)]? = some (a :: t)[wordN (a :: t)] := List.getElem?_eq_getElem (by omega)
    refine .inr (.inr ⟨_, by omega, hc, ?_⟩)
    cases hd : delimB ((a :: t)[wordN (a :: t)].toNat : Int) with
    | false => exact .inl rfl
    | true =>
     right
     refine ⟨rfl, ?_⟩
     rw [quoteL_word (by omega) hc hd] at h
     split at h
     ·cases h
     ·have := kindI_is ((a :: t).take (wordN (a :: t))); omega
theorem quote_way {a : UInt8} {t : List UInt8} {k : Int} {m : Nat} (h : quoteL (a :: t) = some (k, m)) : (a = 39 ∧ k = 4 ∧ m = 0) ∨ (a = 34 ∧ k = 5 ∧ m = 0) ∨ (a = 47 ∧ k = 7 ∧ m = 0) ∨ ((a ≠ 39 ∧ a ≠ 34 ∧ a ≠ 47) ∧ 0 < wordN (a :: t) ∧ m = wordN (a :: t) ∧ ∃ c, (a :: t)[wordN (a :: t)]? = some c ∧ delimB c.toNat = true ∧ kindI ((a :: t).take (wordN (a :: t))) = k ∧ 0 ≤ k) := by
 by_cases h39 : a = 39
 ·subst h39
  rw [show quoteL (39 :: t) = some (4, 0) from rfl] at h
  cases h
  exact .inl ⟨rfl, rfl, rfl⟩
 by_cases h34 : a = 34
 ·subst h34
  rw [show quoteL (34 :: t) = some (5, 0) from rfl] at h
  cases h
  exact .inr (.inl ⟨rfl, rfl, rfl⟩)
 by_cases h47 : a = 47
 ·subst h47
  rw [show quoteL (47 :: t) = some (7, 0) from rfl] at h
  cases h
  exact .inr (.inr (.inl ⟨rfl, rfl, rfl⟩))
 right; right; right
 by_cases h0 : wordN (a :: t) = 0
 ·rw [quoteL_other h0 ⟨h39, h34, h47⟩] at h; cases h
 ·cases hc : (a :: t)[wordN (a :: t)]? with
  | none => unfold quoteL at h; rw [hc] at h; cases h
  | some c =>
   cases hd : delimB (c.toNat : Int) with
   | false =>
    unfold quoteL at h
    rw [hc] at h
    simp only [hd] at h
    cases h
   | true =>
    rw [quoteL_word (by omega) hc hd] at h
    split at h
    ·rename_i hk
     injection h with h
     injection h with h1 h2
     refine ⟨⟨h39, h34, h47⟩, by omega, h2.symm, c, rfl, hd, h1, by omega⟩
    ·cases h
theorem var_le {B : List UInt8} {n : Nat} (h : varS true B = some (n + 1)) : n + 1 ≤ B.length := by
 match B, h with
 | c :: d :: t, h =>
  rw [varS_2] at h
  have hw := wordN_le (d :: t)
  simp only [List.length_cons] at hw ⊢
  split at h
  ·split at h
   ·split at h <;> cases h
   ·split at h
    ·injection h with h; omega
    ·split at h
     ·injection h with h; omega
     ·cases h
  ·cases h
 | [_], h => cases h
 | [], h => cases h
theorem isSg_no {x : RTok} (h : x.kind ≠ 3) (l : List UInt8) : isSg x l = false := by
 unfold isSg
 have : (x.kind == 3) = false := by simpa using h
 rw [this]; rfl
theorem quoteS_kind {pl : Nat} {k : Int} {R : Src} {r : RTok × Src} (h : quoteS pl k R = some r) : r.1.kind ≠ 3 := by
 match R, h with
 | x :: R, h =>
  unfold quoteS at h
  simp only at h
  split at h
  ·cases h
  ·repeat' split at h
   all_goals first | (cases h; done) | (injection h with h; rw [← h]; simp)
theorem spec_brace {R : Src} {r : RTok × Src} (h : specS R = some (some r)) (rt : List RTok) (tms : List Bool) (near : Bool) (ops : List Nat) : braceS r.1 rt tms near ops = (r.1, ops) := by
 have hb : isSg r.1 [123] = false ∧ isSg r.1 [125] = false := by
  unfold specS at h
  split at h
  ·rename_i n name more _
   cases hc : cutS name (R.drop n) with
   | none => rw [hc] at h; cases h
   | some q =>
    rw [hc] at h
    cases h
    cases more <;> exact ⟨isSg_no (by simp [herT]) _, isSg_no (by simp [herT]) _⟩
  ·split at h
   ·rename_i k n _
    cases hq : quoteS (place R) k (R.drop n) with
    | none => rw [hq] at h; cases h
    | some q =>
     rw [hq] at h
     cases h
     have := quoteS_kind hq
     exact ⟨isSg_no this _, isSg_no this _⟩
   ·split at h
    ·cases h
    ·split at h
     ·rename_i hs
      cases h
      match hB : byt R, hs with
      | c :: d :: t, hs =>
       rw [sgnB_2] at hs
       simp only [Bool.and_eq_true] at hs
       have h1 : (asIs 3 1 R).1.raw = [c] := by unfold asIs; simp [hB]
       unfold isSg
       rw [h1]
       rcases sig_eq hs.1 with rfl | rfl | rfl | rfl <;> exact ⟨rfl, rfl⟩
      | [_], hs => exact absurd hs (by simp [sgnB])
      | [], hs => exact absurd hs (by simp [sgnB])
     ·cases h
    ·cases h
     exact ⟨isSg_no (by show (2 : Nat) ≠ 3; decide) _, isSg_no (by show (2 : Nat) ≠ 3; decide) _⟩
 unfold braceS
 rw [if_neg (by rw [hb.1]; decide), if_neg (by rw [hb.2]; decide)]
def NewP (G : Prop) (P base : Nat) (tm : Bool) (rt : List RTok) (tms : List Bool) (ks : List Tok) (t : RTok) (R2 : Src) (ops : List Nat) (L a : Nat) (w w' : World) : Prop :=
 ∃ S' b, PutP G P base tm rt tms ks t S' b ops w w' ∧ S'.drop b = R2 ∧ R2.length < L - a ∧ S'.length ≤ L ∧ b ≤ S'.length
def SpcP (G : Prop) (P base : Nat) (rt : List RTok) (tms : List Bool) (ks : List Tok) (L a : Nat) (ops : List Nat) (w : World) (X : Option (Option (RTok × Src))) (e : Ending) (w' : World) : Prop :=
 match X with
 | none => e = .returned (.int .i64 (-1)) ∧ Gr w w'
 | some none => e = .returned (.int .i64 0) ∧ Gr w w'
 | some (some r) => e = .returned (.int .i64 1) ∧ NewP G P base true rt tms ks r.1 r.2 ops L a w w'
theorem specS_none {R : Src} (h1 : hereS (byt R) = none) (h2 : quoteL (byt R) = none) : specS R = match varS true (byt R) with
   | none => none
   | some 0 => some (if sgnB (byt R) = true then some (asIs 3 1 R) else none)
   | some (n + 1) => some (some (asIs 2 (n + 1) R)) := by unfold specS; rw [h1, h2]
theorem specS_quote {R : Src} {k : Int} {n : Nat} (h1 : hereS (byt R) = none) (h2 : quoteL (byt R) = some (k, n)) : specS R = (quoteS (place R) k (R.drop n)).map some := by unfold specS; rw [h1, h2]
theorem specS_here {R : Src} {n : Nat} {name : List UInt8} {more : Bool} (h1 : hereS (byt R) = some (n, name, more)) : specS R = (cutS name (R.drop n)).map fun r => some (herT more (place R) r.1, r.2) := by unfold specS; rw [h1]
theorem newP_here {W : World} {t : RTok} {b a : Nat} (g : Gr w W) (hb0 : base ≤ w.heap.size) (ha : a < b) (hb : b ≤ S.length) (h : PutP G P base tm rt tms ks t S b ops W w') : NewP G P base tm rt tms ks t (S.drop b) ops S.length a w w' :=
 ⟨S, b, putP_from g hb0 h, rfl, by rw [List.length_drop]; omega, Nat.le_refl _, hb⟩
theorem var_spc {W : World} {a : Nat} {e : Ending} (hat : a < S.length) (h1 : hereS (byt (S.drop a)) = none) (h2 : quoteL (byt (S.drop a)) = none) (g : Gr w W) (hb0 : base ≤ w.heap.size)
  (h : VarP G P base rt tms ks S a ops W (varS true (byt (S.drop a))) (sgnB (byt (S.drop a))) e w') : SpcP G P base rt tms ks S.length a ops w (specS (S.drop a)) e w' := by
 rw [specS_none h1 h2]
 cases hv : varS true (byt (S.drop a)) with
 | none => rw [hv] at h; exact ⟨h.1, g.trans h.2⟩
 | some m =>
  rw [hv] at h
  cases m with
  | zero =>
   cases hb : sgnB (byt (S.drop a)) with
   | true =>
    rw [hb] at h
    have h3 : (asIs 3 1 (S.drop a)).2 = S.drop (a + 1) := by unfold asIs; rw [List.drop_drop]
    refine ⟨h.1, ?_⟩
    rw [h3]
    exact newP_here g hb0 (by omega) (by omega) h.2
   | false => rw [hb] at h; exact ⟨h.1, g.trans h.2⟩
  | succ m =>
   have h3 : (asIs 2 (m + 1) (S.drop a)).2 = S.drop (a + (m + 1)) := by unfold asIs; rw [List.drop_drop]
   have h4 := var_le hv
   rw [byt_len, List.length_drop] at h4
   refine ⟨h.1, ?_⟩
   show NewP _ _ _ _ _ _ _ _ (asIs 2 (m + 1) (S.drop a)).2 _ _ _ _ _
   rw [h3]
   exact newP_here g hb0 (by omega) (by omega) h.2
theorem quo_spc {W : World} {a n : Nat} {k : Int} {e : Ending} (hat : a < S.length) (h1 : hereS (byt (S.drop a)) = none) (h2 : quoteL (byt (S.drop a)) = some (k, n)) (g : Gr w W) (hb0 : base ≤ w.heap.size)
  (h : QuoR G P base rt tms ks S ops W (a + n) (quoteS S[a].1 k (S.drop (a + n))) e w') : ∃ b, e = .returned (.bool b) ∧ SpcP G P base rt tms ks S.length a ops w (specS (S.drop a)) (.returned (.int .i64 (if b = true then 1 else -1))) w' := by
 rw [specS_quote h1 h2, List.drop_drop]
 have hp : place (S.drop a) = S[a].1 := by rw [List.drop_eq_getElem_cons hat]; rfl
 rw [hp]
 cases hq : quoteS S[a].1 k (S.drop (a + n)) with
 | none => rw [hq] at h; exact ⟨false, h.1, rfl, g.trans h.2⟩
 | some r =>
  rw [hq] at h
  obtain ⟨h3, b, h4, h5, h6, h7⟩ := h
  refine ⟨true, h3, rfl, ?_⟩
  show NewP _ _ _ _ _ _ _ _ r.2 _ _ _ _ _
  rw [← h5]
  exact newP_here g hb0 (by omega) h7 h4
theorem quote_any (h : RSt G w P base S at_ true en rt tms ops ks s pv tv bv ov) (hat : at_ < S.length) (hks : ks.length ≤ 4000) (d : Nat) (hd : d < S.length) (ho : delimB S[d].2.toNat = true) (k : Int) (hk : k = 4 ∨ k = 5 ∨ k = 6 ∨ k = 7 ∨ k = 8 ∨ k = 9) :
  Calls Tryz.prog 74 #[.pointer (some ⟨P, 0, none⟩), .int .i64 k, .int .i64 (d : Int)] w (QuoR G P base rt tms ks S ops w d (quoteS S[at_].1 k (S.drop d))) := by
 rcases hk with rfl | rfl | rfl | rfl | rfl | rfl
 ·exact quote_4 h hat hks d hd ho
 ·exact quote_5 h hat hks d hd ho
 ·exact quote_6 h hat hks d hd ho
 ·exact quote_7 h hat hks d hd ho
 ·exact quote_8 h hat hks d hd ho
 ·exact quote_9 h hat hks d hd ho
end Go.Proofs.YthmopindibdhnaaGreatDoor.G
