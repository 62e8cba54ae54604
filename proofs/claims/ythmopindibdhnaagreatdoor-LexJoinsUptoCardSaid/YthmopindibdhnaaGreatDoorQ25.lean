import Derived.Test.YthmopindibdhnaaGreatDoorQ00
import Derived.Test.YthmopindibdhnaaGreatDoorQ24
namespace Go.Proofs.YthmopindibdhnaaGreatDoor.G
open Go.RowKit Go.Shelf Go.Maps
variable {w w' : World} {P base : Nat} {s : ByteArray} {pv : Value} {at_ : Nat} {tv bv : Value} {tm : Bool} {ov : Value} {en : Nat} {sg : Bool} {G : Prop} {S : Src} {rt : List RTok} {tms : List Bool} {ops : List Nat} {ks : List Tok}
def quoT (k pl : Nat) (raw : List UInt8) (o : UInt8) (o2 : UInt8) (raw2 : List UInt8) (R2 : Src) : RTok :=
 if k = 8 then ⟨8, pl, 5, raw, raw2, (byt R2).take (flagS R2 flagsP), o, o2, 0⟩ else ⟨9, pl, 6, raw, raw2, (byt R2).take (flagS R2 flagsT), o, o2, 0⟩
def quoF (k : Nat) (R2 : Src) : Nat := if k = 8 then flagS R2 flagsP else flagS R2 flagsT
def SecR (G : Prop) (P base : Nat) (rt : List RTok) (tms : List Bool) (ks : List Tok) (S : Src) (ops : List Nat) (w : World) (k pl : Nat) (raw : List UInt8) (o : UInt8) (n1 : Nat) (X : Option (UInt8 × List UInt8 × Src)) (e : Ending) (w' : World) : Prop :=
 match X with
 | none => e = .returned (.bool false) ∧ Gr w w'
 | some r => e = .returned (.bool true) ∧ ∃ b, PutP G P base true rt tms ks (quoT k pl raw o r.1 r.2.1 r.2.2) S b ops w w' ∧ S.drop b = r.2.2.drop (quoF k r.2.2) ∧ n1 < b ∧ b ≤ S.length
def secX (o2 : UInt8) (R : Src) : Option (UInt8 × List UInt8 × Src) := (partS o2 (partU o2) 0 R).map fun r => (o2, r.1, r.2)
theorem secX_same {o : UInt8} (h : partU o = o) (R : Src) : secondS o R = secX o R := by
 unfold secondS secX
 rw [if_pos h, h]
theorem secX_other {o : UInt8} (h : partU o ≠ o) (R : Src) : secondS o R = secondT (blkS R) := by
 unfold secondS
 rw [if_neg h]
theorem secT_yes {x : Nat × UInt8} {t : Src} (h : delimB x.2.toNat = true) : secondT (x :: t) = secX x.2 t := by
 show (if delimB x.2.toNat = true then _ else none) = _
 rw [if_pos h]; rfl
theorem secT_no {x : Nat × UInt8} {t : Src} (h : delimB x.2.toNat = false) : secondT (x :: t) = none := by
 show (if delimB x.2.toNat = true then _ else none) = _
 rw [if_neg (by rw [h]; decide)]
theorem endN_lt (o e : UInt8) : ∀ (d : Nat) (l : List UInt8) (n : Nat), endN o e d l = some n → n < l.length
 | d, [], n, h => by simp [endN] at h
 | d, [x], n, h => by
  rw [endN_one] at h
  split at h
  ·injection h with h; subst h; simp
  ·cases h
 | d, x :: y :: t, n, h => by
  rw [endN] at h
  split at h
  ·cases hq : endN o e d t with
   | none => rw [hq] at h; cases h
   | some q =>
    rw [hq] at h
    injection h with h
    have h' : q + 2 = n := h
    have := endN_lt o e d t q hq
    simp; omega
  ·split at h
   ·split at h
    ·injection h with h; subst h; simp
    ·cases hq : endN o e (d - 1) (y :: t) with
     | none => rw [hq] at h; cases h
     | some q =>
      rw [hq] at h
      injection h with h
      have h' : q + 1 = n := h
      have := endN_lt o e (d - 1) (y :: t) q hq
      simp at this ⊢; omega
   ·split at h
    ·cases hq : endN o e (d + 1) (y :: t) with
     | none => rw [hq] at h; cases h
     | some q =>
      rw [hq] at h
      injection h with h
      have h' : q + 1 = n := h
      have := endN_lt o e (d + 1) (y :: t) q hq
      simp at this ⊢; omega
    ·cases hq : endN o e d (y :: t) with
     | none => rw [hq] at h; cases h
     | some q =>
      rw [hq] at h
      injection h with h
      have h' : q + 1 = n := h
      have := endN_lt o e d (y :: t) q hq
      simp at this ⊢; omega
theorem secX_none {o2 : UInt8} {a : Nat} (h : endN o2 (partU o2) 0 (byt (S.drop a)) = none) : secX o2 (S.drop a) = none := by
 unfold secX; rw [part_end, h]; rfl
theorem secX_some {o2 : UInt8} {a n : Nat} (h : endN o2 (partU o2) 0 (byt (S.drop a)) = some n) : secX o2 (S.drop a) = some (o2, (byt (S.drop a)).take n, S.drop (n + a + 1)) := by
 unfold secX; rw [part_end, h]
 show some (o2, _, (S.drop a).drop (n + 1)) = _
 rw [List.drop_drop, show a + (n + 1) = n + a + 1 by omega]
theorem flagN_bd {l : List UInt8} {a : Nat} : ∀ (all : List UInt8) (n : Nat), a + n ≤ l.length → a + flagN l a all n ≤ l.length
 | [], n, h => h
 | c :: t, n, h => by
  rw [flagN]
  split
  ·rename_i hc
   have := (List.getElem?_eq_some_iff.1 hc).1
   exact flagN_bd t (n + 1) (by omega)
  ·exact flagN_bd t n h
theorem quo8_lk {G : Prop} {p : Nat} {o o2 : UInt8} {raw raw2 : List UInt8} {R2 : Src} {mo : ByteArray} (h1 : o2 ≠ 92) (h2 : partU o2 ≠ 92) (hmo : mo.data.toList = (byt R2).take (flagS R2 flagsP)) : Lk G ⟨8, (p : Int), ba (patR raw), ba (inR o2 (partU o2) true raw2), mo, 0⟩ (quoT 8 p raw o o2 raw2 R2) := by
 have hmb : mo = ba ((byt R2).take (flagS R2 flagsP)) := ba_eq (by rw [ba_data, hmo])
 refine ⟨rfl, rfl, fun e => absurd (show (8 : Nat) = 3 from e) (by decide), fun _ => ?_⟩
 have e1 : textP (quoT 8 p raw o o2 raw2 R2) = patR raw := by rw [← ws_eq]; rfl
 have e2 : replP (quoT 8 p raw o o2 raw2 R2) = inR o2 (partU o2) true raw2 := by rw [← sub_eq o2 h1 h2]; rfl
 unfold rend
 rw [e1, e2, hmb]; rfl
theorem fr_two {X : World} {j1 j2 : Nat} {u v : Value} (g : Gr w X) (hb : base ≤ w.heap.size) : Fr P base w ((X.setCell ⟨w.heap.size, j1, none⟩ u).setCell ⟨w.heap.size, j2, none⟩ v) :=
 (Fr.of_but (But.of_gr g) hb).trans ⟨rfl, rfl, rfl, by simp [World.setCell], fun k hk _ => by
  have : w.heap.size ≠ k := by omega
  simp [World.setCell, Array.getElem?_modify, this]⟩
theorem blkS_on {n : Nat} (h : n < S.length) (hc : blkB S[n].2.toNat = true) : blkS (S.drop n) = blkS (S.drop (n + 1)) := by
 rw [List.drop_eq_getElem_cons h, blkS, if_pos hc]
theorem blkS_at {n : Nat} (h : n < S.length) (hc : blkB S[n].2.toNat = false) : blkS (S.drop n) = S.drop n := by
 rw [List.drop_eq_getElem_cons h, blkS, if_neg (by rw [hc]; decide)]
theorem blkS_out {n : Nat} (h : S.length ≤ n) : blkS (S.drop n) = [] := by rw [List.drop_eq_nil_of_le h]; rfl
set_option maxRecDepth 100000 in
set_option maxHeartbeats 4000000 in
theorem second_8 (h : RSt G w P base S at_ true en rt tms ops ks s pv tv bv ov) (hat : at_ < S.length) (hks : ks.length ≤ 4000) (o : UInt8) (ho : delimB o.toNat = true) (tx : ByteArray) (htx : tx.size ≤ 4000) (n1 : Nat) (hn1 : n1 < S.length) :
  Calls Tryz.prog 96 #[.pointer (some ⟨P, 0, none⟩), .agg #[.int .i64 8, .int .i64 0, .string ⟨#[]⟩, .string ⟨#[]⟩, .string ⟨#[]⟩, .int .i64 0], .string tx, .int .i64 (n1 : Int), .int .u8 (o.toNat : Int)] w (SecR G P base rt tms ks S ops w 8 S[at_].1 tx.data.toList o n1 (secondS o (S.drop (n1 + 1)))) := by
 have hsz := h.size
 have hle := h.le
 have HS := Lh h.eq
 have HBy := Lh (fun n h1 h2 => byt_at h.eq n h1 h2)
 obtain ⟨e1, e2, e3⟩ := (partR_ok o).1 ho
 have HP := Lh (fun w => partner_r (o.toNat : Int) w)
 rw [e1] at HP
 have HK := Lh blk_r
 have HPa := Lh partner_r
 have H := Lh h
 obtain ⟨X, hX⟩ : ∃ X, X = secondS o (S.drop (n1 + 1)) := ⟨_, rfl⟩
 rw [← hX]
 have HX := Lh hX
 have Ho := Lh ho
 have Hsz := Lh hsz
 have Hle := Lh hle
 obtain ⟨m, hm⟩ : ∃ m, m = n1 + 1 := ⟨_, rfl⟩
 have hm1 : (n1 : Int) + 1 = (m : Int) := by omega
 have hm2 : (m : Int) ≤ 9223372036854775807 := by omega
 have hm3 : -9223372036854775808 ≤ (m : Int) := by omega
 rw [← hm] at HX
 have Hm := Lh hm
 have Hn1 := Lh hn1
 have GA := Lh ((Gr.refl w).alloc (.cells #[.int .i64 8, .int .i64 0, .string ⟨#[]⟩, .string ⟨#[]⟩, .string ⟨#[]⟩, .int .i64 0] 42))
 have KA := Lh (heap_alloc_new w (.cells #[.int .i64 8, .int .i64 0, .string ⟨#[]⟩, .string ⟨#[]⟩, .string ⟨#[]⟩, .int .i64 0] 42))
 obtain ⟨c0, c1, c2, c3, c4, c5, c6, c7, c8, cf⟩ := (H.out.sc.gr GA.out).cells
 obtain ⟨bq, hbq⟩ : ∃ b, b = (((partU o).toNat : Int) != (o.toNat : Int)) := ⟨_, rfl⟩
 have Hbq := Lh (show bq = !(partU o == o) by rw [hbq]; exact u8_bne _ _)
 have hbq2 := hbq.symm
 clear hbq
 obtain ⟨pl, hpl⟩ : ∃ pl, pl = S[at_].1 := ⟨_, rfl⟩
 rw [← hpl]
 have Hpl : Hid (∀ hat : at_ < S.length, S[at_].1 = pl) := Lh (fun _ => hpl.symm)
 have Hat := Lh hat
 clear h hX ho hsz hle hm e1 e2 e3 hn1 hpl hat
 go_enter Tryz.func96, Tryz.ntmps96
 go_upto_if 23 with (go_at_call 72; refine (HP.out _).mono ?_; rintro e0 w0 ⟨rfl, rfl⟩)
 generalize hW0 : w.alloc (.cells #[.int .i64 8, .int .i64 0, .string ⟨#[]⟩, .string ⟨#[]⟩, .string ⟨#[]⟩, .int .i64 0] 42) = W0 at *
 clear hW0
 go_cut [11, 12] from 24 (fun s11 s12 wx => ∃ (o2 : UInt8) (a2 : Nat), s11 = .int .u8 (o2.toNat : Int) ∧ s12 = .int .i64 (a2 : Int) ∧ Hid (delimB o2.toNat = true) ∧ Hid (a2 ≤ S.length) ∧ Hid (m ≤ a2) ∧ Hid (X = secX o2 (S.drop a2)) ∧ Hid (Gr W0 wx))
 case first =>
  cases bq with
  | false =>
   have hpq : partU o = o := by have := Hbq.out; simpa using this
   have HX2 : Hid (X = secX o (S.drop m)) := Lh (by rw [HX.out, secX_same hpq])
   clear hpq
   go_wp2_with fail
   go_meet
   exact ⟨o, m, rfl, rfl, Ho, Lh (by have := Hm.out; have := Hn1.out; omega), Lh (Nat.le_refl _), HX2, Lh (Gr.refl _)⟩
  | true =>
   have hpq : partU o ≠ o := by have := Hbq.out; simpa using this
   have HX2 : Hid (X = secondT (blkS (S.drop m))) := Lh (by rw [HX.out, secX_other hpq])
   clear hpq
   go_wp2_with fail
   go_loopw [12] (fun av wr => ∃ n : Nat, av = .int .i64 (n : Int) ∧ Hid (m ≤ n) ∧ Hid (n ≤ S.length) ∧ Hid (blkS (S.drop n) = blkS (S.drop m)) ∧ W0 = wr) (fun av _ => leftTo s.size av)
   case atStart => exact ⟨m, rfl, Lh (Nat.le_refl _), Lh (by have := Hm.out; have := Hn1.out; omega), Lh rfl, rfl⟩
   case round =>
    obtain ⟨n, rfl, hmn, hns, hbl, rfl⟩ := hrel
    have hsz := Hsz.out
    by_cases hc : n < S.length
    ·have hcs : n < s.size := by omega
     have hci : (n : Int) < (s.size : Int) := by omega
     have ex := HBy.out n hcs hc
     obtain ⟨x, hx⟩ : ∃ x, x = S[n] := ⟨_, rfl⟩
     rw [← hx] at ex
     have hi1 : (n : Int) + 1 ≤ 9223372036854775807 := by have := Hle.out; omega
     have hi2 : -9223372036854775808 ≤ (n : Int) + 1 := by omega
     have HKx := Lh (fun w => HK.out x.2.toNat w)
     cases hb : blkB x.2.toNat with
     | true =>
      rw [hb] at HKx
      have HB2 : Hid (blkS (S.drop (n + 1)) = blkS (S.drop m)) := Lh (by rw [← blkS_on hc (by rw [← hx]; exact hb)]; exact hbl.out)
      have Hc := Lh hc
      clear hx hb hsz hc
      go_wp2_with (go_at_call 51; refine (HKx.out _).mono ?_; rintro e1 w1 ⟨rfl, rfl⟩)
      go_roundw
      case rel => exact ⟨n + 1, rfl, Lh (by have := hmn.out; omega), Lh Hc.out, HB2, by first | rfl | trivial⟩
      case measure => simp only [leftTo]; have := Hsz.out; have := Hc.out; omega
     | false =>
      rw [hb] at HKx
      have hR : blkS (S.drop m) = S.drop n := by rw [← hbl.out]; exact blkS_at hc (by rw [← hx]; exact hb)
      have hD : S.drop n = x :: S.drop (n + 1) := by rw [hx]; exact List.drop_eq_getElem_cons hc
      have q1 : ((n : Int) == (s.size : Int)) = false := by simp; omega
      have HPx := Lh (fun w => HPa.out x.2.toNat w)
      have Hc := Lh hc
      cases hd : delimB x.2.toNat with
      | true =>
       obtain ⟨y1, _, y3⟩ := (partR_ok x.2).1 hd
       have q2 : (partR (x.2.toNat : Int) == 0) = false := by simpa using y3
       have HX3 : Hid (X = secX x.2 (S.drop (n + 1))) := Lh (by rw [HX2.out, hR, hD, secT_yes hd])
       have Hd := Lh hd
       clear hx hb hsz hc hR hD hd y1 y3
       go_wp2_with (first | (go_at_call 51; refine (HKx.out _).mono ?_; rintro e1 w1 ⟨rfl, rfl⟩) | (go_at_call 72; refine (HPx.out _).mono ?_; rintro e1 w1 ⟨rfl, rfl⟩))
       go_meet
       exact ⟨x.2, n + 1, rfl, rfl, Hd, Lh Hc.out, Lh (by have := hmn.out; omega), HX3, Lh (Gr.refl _)⟩
      | false =>
       have y1 := (partR_ok x.2).2 hd
       rw [y1] at HPx
       have HXn : Hid (X = none) := Lh (by rw [HX2.out, hR, hD, secT_no hd])
       clear hx hb hsz hc hR hD hd y1
       go_wp2_with (first | (go_at_call 51; refine (HKx.out _).mono ?_; rintro e1 w1 ⟨rfl, rfl⟩) | (go_at_call 72; refine (HPx.out _).mono ?_; rintro e1 w1 ⟨rfl, rfl⟩))
       go_ret
       rw [HXn.out]
       exact ⟨rfl, GA.out⟩
    ·have hci : decide ((n : Int) < (s.size : Int)) = false := by simp; omega
     have hci2 : ¬ (n : Int) < (s.size : Int) := by omega
     have hci3 : decide (n < s.size) = false := decide_eq_false (by omega)
     have q1 : ((n : Int) == (s.size : Int)) = true := by have := hns.out; simp; omega
     have HXn : Hid (X = none) := Lh (by rw [HX2.out, ← hbl.out, blkS_out (by omega)]; rfl)
     clear hsz hc
     go_wp2_with fail
     go_ret
     rw [HXn.out]
     exact ⟨rfl, GA.out⟩
 case rest =>
 obtain ⟨o2, a2, rfl, rfl, Ho2, Ha2, Hma, HX2, HG⟩ := hcut
 have hbd : s.data.toList.drop a2 = byt (S.drop a2) := by rw [HS.out, byt_drop]
 have HQ := Lh (fun w => quoted_r s (by have := Hsz.out; have := Hle.out; omega) o2 Ho2.out a2 (by have := Hsz.out; have := Ha2.out; omega) w)
 rw [hbd] at HQ
 have RC := Lh (H.out.gr (GA.out.trans HG.out))
 have GC := Lh (GA.out.trans HG.out)
 have KC := Lh ((HG.out.block _ (Ag KA.out).1).trans KA.out)
 clear c0 c1 c2 c3 c4 c5 c6 c7 c8 cf hbd
 obtain ⟨c0, c1, c2, c3, c4, c5, c6, c7, c8, cf⟩ := RC.out.sc.cells
 cases hq : endN o2 (partU o2) 0 (byt (S.drop a2)) with
 | none =>
  rw [hq] at HQ
  have HXn : Hid (X = none) := Lh (by rw [HX2.out, secX_none hq])
  rw [show optI ((none : Option Nat).map (· + a2)) = -1 from rfl] at HQ
  clear hq
  go_wp2_with (go_at_call 92; refine (HQ.out _).mono ?_; rintro e1 w1 ⟨rfl, rfl⟩)
  go_ret
  rw [HXn.out]
  exact ⟨rfl, GC.out⟩
 | some n =>
  rw [hq] at HQ
  have hnl := endN_lt _ _ _ _ _ hq
  rw [byt_len, List.length_drop] at hnl
  have HX3 := Lh (HX2.out.trans (secX_some hq))
  obtain ⟨L, hL⟩ : ∃ L, L = n + a2 := ⟨_, rfl⟩
  rw [← hL] at HX3
  rw [show optI ((some n).map (· + a2)) = ((n + a2 : Nat) : Int) from rfl, ← hL] at HQ
  have HLL : Hid (L < S.length) := Lh (by omega)
  have hsz := Hsz.out
  have hle := Hle.out
  have l0 : ¬ (L : Int) < 0 := by omega
  have l1 : (a2 : Int) ≤ (L : Int) := by omega
  have l2 : (L : Int) ≤ (s.size : Int) := by omega
  have l3 : decide ((L : Int) < 0) = false := decide_eq_false l0
  have HL := Lh hL
  clear hq hsz hle hnl hL
  obtain ⟨kc, kf⟩ := cellsOf KC.out
  have k0 := kc 0
  simp at k0
  clear kc
  have HT1 := Lh (fun w => pattern_r tx (by omega) w)
  have HT2 := Lh (fun w => inter_r (s.extract a2 L) (by have := Hsz.out; have := Hle.out; simp [ByteArray.size_extract]; omega) o2 (partU o2) ((partR_ok o2).1 Ho2.out).1 true w)
  have HsL : Hid ((s.extract a2 L).data.toList = (byt (S.drop a2)).take n) := Lh (by rw [extractE, HS.out, byt_drop, HL.out]; congr 1; omega)
  rw [HsL.out] at HT2
  obtain ⟨tA, htA⟩ : ∃ tA, tA = ba (patR tx.data.toList) := ⟨_, rfl⟩
  obtain ⟨tB, htB⟩ : ∃ tB, tB = ba (inR o2 (partU o2) true ((byt (S.drop a2)).take n)) := ⟨_, rfl⟩
  rw [← htA] at HT1
  rw [← htB] at HT2
  have HtA := Lh htA
  have HtB := Lh htB
  clear htA htB
  go_upto_region 19 with (first | (go_at_call 92; refine (HQ.out _).mono ?_; rintro e1 w1 ⟨rfl, rfl⟩) | (go_at_call 95; refine (HT1.out _).mono ?_; rintro e2 w2 ⟨rfl, g2⟩; have G2 := Lh (GC.out.trans g2); have KC2 := Lh ((g2.block _ (Ag KC.out).1).trans KC.out); clear g2) | (go_at_call 71; refine (HT2.out _).mono ?_; rintro e3 w3 ⟨rfl, g3⟩; have G3 := Lh (G2.out.trans g3); have RD := Lh (H.out.gr G3.out); have KD := Lh ((g3.block _ (Ag KC2.out).1).trans KC2.out); obtain ⟨kd, kg⟩ := cellsOf KD.out; clear g3))
  have hgP : w.heap.size ≠ P := by have := H.out.sc.lt; omega
  have htv : tv.ownBlock ≠ some w.heap.size := own_apart H.out.t (.inr (Nat.le_refl _))
  have K5 : Hid ((w3.setCell ⟨w.heap.size, 2, none⟩ (.string tA)).heap[w.heap.size]? = some (.cells #[.int .i64 8, .int .i64 0, .string tA, .string ⟨#[]⟩, .string ⟨#[]⟩, .int .i64 0] 42 (0, 0))) := Lh (by simp [World.setCell, Array.getElem?_modify, KD.out])
  have RY := Lh ((RD.out.other (j := 2) (u := .string tA) KD.out hgP htv).other (j := 3) (u := .string tB) K5.out hgP htv)
  have KY : Hid (((w3.setCell ⟨w.heap.size, 2, none⟩ (.string tA)).setCell ⟨w.heap.size, 3, none⟩ (.string tB)).heap[w.heap.size]? = some (.cells #[.int .i64 8, .int .i64 0, .string tA, .string tB, .string ⟨#[]⟩, .int .i64 0] 42 (0, 0))) := Lh (by simp [World.setCell, Array.getElem?_modify, KD.out])
  have FY : Hid (Fr P base w ((w3.setCell ⟨w.heap.size, 2, none⟩ (.string tA)).setCell ⟨w.heap.size, 3, none⟩ (.string tB))) := Lh (fr_two G3.out H.out.bw)
  generalize hY : (w3.setCell ⟨w.heap.size, 2, none⟩ (.string tA)).setCell ⟨w.heap.size, 3, none⟩ (.string tB) = Y at *
  have HgP := Lh hgP
  have Htv := Lh htv
  clear hY hgP htv k0 kf kd kg c0 c1 c2 c3 c4 c5 c6 c7 c8 cf
  obtain ⟨c0, c1, c2, c3, c4, c5, c6, c7, c8, cf⟩ := RY.out.sc.cells
  obtain ⟨kc, kf⟩ := cellsOf KY.out
  have k0 := kc 0
  have k1 := kc 1
  have k2 := kc 2
  have k3 := kc 3
  have k4 := kc 4
  have k5 := kc 5
  simp at k0 k1 k2 k3 k4 k5
  clear kc
  have hsz := Hsz.out
  have hle := Hle.out
  have hLL := HLL.out
  obtain ⟨M1, hM1⟩ : ∃ M1, M1 = L + 1 := ⟨_, rfl⟩
  have m1 : (L : Int) + 1 = (M1 : Int) := by omega
  have m2 : IntKind.i64.wrap (M1 : Int) = (M1 : Int) := by rw [IntKind.wrap_i64]; omega
  have m1a : (M1 : Int) ≤ 9223372036854775807 := by omega
  have m1b : -9223372036854775808 ≤ (M1 : Int) := by omega
  have HF := Lh (fun w => flags_r s ⟨#[105, 109, 115, 120, 103]⟩ (by omega) (by decide) M1 (by omega) w)
  have hfl : flagN s.data.toList M1 (⟨#[105, 109, 115, 120, 103]⟩ : ByteArray).data.toList 0 = flagS (S.drop M1) flagsP := by
   rw [flagN_off, HS.out]; unfold flagS; rw [byt_drop]; rfl
  have hbd := flagN_bd (l := s.data.toList) (a := M1) (⟨#[105, 109, 115, 120, 103]⟩ : ByteArray).data.toList 0 (by rw [sizeL]; omega)
  rw [hfl, sizeL] at hbd
  rw [hfl] at HF
  obtain ⟨n2, hn2⟩ : ∃ n2, n2 = flagS (S.drop M1) flagsP := ⟨_, rfl⟩
  rw [← hn2] at hbd HF
  obtain ⟨M2, hM2⟩ : ∃ M2, M2 = M1 + n2 := ⟨_, rfl⟩
  have m3 : (M1 : Int) + (n2 : Int) = (M2 : Int) := by omega
  have m4 : IntKind.i64.wrap (M2 : Int) = (M2 : Int) := by rw [IntKind.wrap_i64]; omega
  have m5 : (M1 : Int) ≤ (M2 : Int) := by omega
  have m6 : (M2 : Int) ≤ (s.size : Int) := by omega
  have m7 : (M2 : Int) ≤ 9223372036854775807 := by omega
  have m8 : -9223372036854775808 ≤ (M2 : Int) := by omega
  have HM1 := Lh hM1
  have HM2 := Lh hM2
  have Hn2 := Lh hn2
  have Hbd := Lh hbd
  clear hsz hle hLL hM1 hM2 hn2 hbd hfl
  go_wp2_with (go_at_call 97; refine (HF.out _).mono ?_; rintro e4 w4 ⟨rfl, g4⟩; have R4 := Lh (RY.out.gr g4); have K4 := Lh ((g4.block _ (Ag KY.out).1).trans KY.out); have F4 := Lh (FY.out.trans (Fr.of_but (But.of_gr g4) RY.out.bw)); obtain ⟨d0, d1, d2, d3, d4, d5, d6, d7, d8, df⟩ := R4.out.sc.cells; obtain ⟨kd, kg⟩ := cellsOf K4.out; have j0 := kd 0; have j1 := kd 1; have j2 := kd 2; have j3 := kd 3; have j4 := kd 4; have j5 := kd 5; simp at j0 j1 j2 j3 j4 j5; clear kd g4)
  have hmo : (s.extract M1 M2).data.toList = (byt (S.drop M1)).take (flagS (S.drop M1) flagsP) := by
   rw [extractE, HS.out, byt_drop, ← Hn2.out, HM2.out]; congr 1; omega
  obtain ⟨z1, z2, _⟩ := (partR_ok o2).1 Ho2.out
  have ho92 : o2 ≠ 92 := fun e => by have := Ho2.out; rw [e] at this; exact absurd this (by decide)
  have HLk := quo8_lk (G := G) (p := pl) (o := o) (raw := tx.data.toList) (raw2 := (byt (S.drop a2)).take n) (R2 := S.drop M1) ho92 z2 hmo
  rw [← HtA.out, ← HtB.out, ← Hpl.out Hat.out] at HLk
  have R6 := R4.out.other (j := 4) (u := .string (s.extract M1 M2)) K4.out HgP.out Htv.out
  refine (put_g R6 Hat.out hks (p0 := 0) M2 _ HLk (by decide) rfl).mono ?_
  rintro e5 w5 ⟨rfl, tv', bv', kk, p1, p2⟩
  have HP1 := Lh p1
  have HP2 := Lh p2
  clear p1 p2 hmo z1 z2 ho92 HLk R6
  go_wp2_with fail
  go_ret
  rw [HX3.out]
  have eM : S.drop (L + 1) = S.drop M1 := by rw [HM1.out]
  have F6 : Fr P base w (w4.setCell ⟨w.heap.size, 4, none⟩ (.string (s.extract M1 M2))) := F4.out.trans ⟨rfl, rfl, rfl, by simp [World.setCell], fun k hk _ => by
   have : w.heap.size ≠ k := by have := H.out.bw; omega
   simp [World.setCell, Array.getElem?_modify, this]⟩
  refine ⟨rfl, M2, ?_, ?_, ?_, ?_⟩
  ·show PutP G P base true rt tms ks (quoT 8 pl tx.data.toList o o2 ((byt (S.drop a2)).take n) (S.drop (L + 1))) S M2 ops w w5
   rw [eM, ← Hpl.out Hat.out]
   exact ⟨s, pv, tv', bv', ov, kk, HP1.out, F6.trans HP2.out⟩
  ·show S.drop M2 = (S.drop (L + 1)).drop (quoF 8 (S.drop (L + 1)))
   rw [eM]
   show S.drop M2 = (S.drop M1).drop (flagS (S.drop M1) flagsP)
   rw [← Hn2.out, List.drop_drop, HM2.out]
  ·have := HM1.out; have := HM2.out; have := HL.out; have := Hma.out; have := Hm.out; omega
  ·have := Hbd.out; have := HM2.out; have := Hsz.out; omega
end Go.Proofs.YthmopindibdhnaaGreatDoor.G
namespace Go.Proofs.YthmopindibdhnaaGreatDoor.G
open Go.RowKit Go.Shelf Go.Maps
variable {w w' : World} {P base : Nat} {s : ByteArray} {pv : Value} {at_ : Nat} {tv bv : Value} {tm : Bool} {ov : Value} {en : Nat} {sg : Bool} {G : Prop} {S : Src} {rt : List RTok} {tms : List Bool} {ops : List Nat} {ks : List Tok}
theorem quo9_lk {G : Prop} {p : Nat} {o o2 : UInt8} {raw raw2 : List UInt8} {R2 : Src} {mo : ByteArray} (hmo : mo.data.toList = (byt R2).take (flagS R2 flagsT)) : Lk G ⟨9, (p : Int), ba (plR o (partU o) raw), ba (plR o2 (partU o2) raw2), mo, 0⟩ (quoT 9 p raw o o2 raw2 R2) := by
 have hmb : mo = ba ((byt R2).take (flagS R2 flagsT)) := ba_eq (by rw [ba_data, hmo])
 refine ⟨rfl, rfl, fun e => absurd (show (9 : Nat) = 3 from e) (by decide), fun _ => ?_⟩
 have e1 : textP (quoT 9 p raw o o2 raw2 R2) = plR o (partU o) raw := by rw [← pl_eq]; rfl
 have e2 : replP (quoT 9 p raw o o2 raw2 R2) = plR o2 (partU o2) raw2 := by rw [← pl_eq]; rfl
 unfold rend
 rw [e1, e2, hmb]; rfl
set_option maxRecDepth 100000 in
set_option maxHeartbeats 4000000 in
theorem second_9 (h : RSt G w P base S at_ true en rt tms ops ks s pv tv bv ov) (hat : at_ < S.length) (hks : ks.length ≤ 4000) (o : UInt8) (ho : delimB o.toNat = true) (tx : ByteArray) (htx : tx.size ≤ 4000) (n1 : Nat) (hn1 : n1 < S.length) :
  Calls Tryz.prog 96 #[.pointer (some ⟨P, 0, none⟩), .agg #[.int .i64 9, .int .i64 0, .string ⟨#[]⟩, .string ⟨#[]⟩, .string ⟨#[]⟩, .int .i64 0], .string tx, .int .i64 (n1 : Int), .int .u8 (o.toNat : Int)] w (SecR G P base rt tms ks S ops w 9 S[at_].1 tx.data.toList o n1 (secondS o (S.drop (n1 + 1)))) := by
 have hsz := h.size
 have hle := h.le
 have HS := Lh h.eq
 have HBy := Lh (fun n h1 h2 => byt_at h.eq n h1 h2)
 obtain ⟨e1, e2, e3⟩ := (partR_ok o).1 ho
 have HP := Lh (fun w => partner_r (o.toNat : Int) w)
 rw [e1] at HP
 have HK := Lh blk_r
 have HPa := Lh partner_r
 have H := Lh h
 obtain ⟨X, hX⟩ : ∃ X, X = secondS o (S.drop (n1 + 1)) := ⟨_, rfl⟩
 rw [← hX]
 have HX := Lh hX
 have Ho := Lh ho
 have Hsz := Lh hsz
 have Hle := Lh hle
 obtain ⟨m, hm⟩ : ∃ m, m = n1 + 1 := ⟨_, rfl⟩
 have hm1 : (n1 : Int) + 1 = (m : Int) := by omega
 have hm2 : (m : Int) ≤ 9223372036854775807 := by omega
 have hm3 : -9223372036854775808 ≤ (m : Int) := by omega
 rw [← hm] at HX
 have Hm := Lh hm
 have Hn1 := Lh hn1
 have GA := Lh ((Gr.refl w).alloc (.cells #[.int .i64 9, .int .i64 0, .string ⟨#[]⟩, .string ⟨#[]⟩, .string ⟨#[]⟩, .int .i64 0] 42))
 have KA := Lh (heap_alloc_new w (.cells #[.int .i64 9, .int .i64 0, .string ⟨#[]⟩, .string ⟨#[]⟩, .string ⟨#[]⟩, .int .i64 0] 42))
 obtain ⟨c0, c1, c2, c3, c4, c5, c6, c7, c8, cf⟩ := (H.out.sc.gr GA.out).cells
 obtain ⟨bq, hbq⟩ : ∃ b, b = (((partU o).toNat : Int) != (o.toNat : Int)) := ⟨_, rfl⟩
 have Hbq := Lh (show bq = !(partU o == o) by rw [hbq]; exact u8_bne _ _)
 have hbq2 := hbq.symm
 clear hbq
 obtain ⟨pl, hpl⟩ : ∃ pl, pl = S[at_].1 := ⟨_, rfl⟩
 rw [← hpl]
 have Hpl : Hid (∀ hat : at_ < S.length, S[at_].1 = pl) := Lh (fun _ => hpl.symm)
 have Hat := Lh hat
 clear h hX ho hsz hle hm e1 e2 e3 hn1 hpl hat
 go_enter Tryz.func96, Tryz.ntmps96
 go_upto_if 23 with (go_at_call 72; refine (HP.out _).mono ?_; rintro e0 w0 ⟨rfl, rfl⟩)
 generalize hW0 : w.alloc (.cells #[.int .i64 9, .int .i64 0, .string ⟨#[]⟩, .string ⟨#[]⟩, .string ⟨#[]⟩, .int .i64 0] 42) = W0 at *
 clear hW0
 go_cut [11, 12] from 24 (fun s11 s12 wx => ∃ (o2 : UInt8) (a2 : Nat), s11 = .int .u8 (o2.toNat : Int) ∧ s12 = .int .i64 (a2 : Int) ∧ Hid (delimB o2.toNat = true) ∧ Hid (a2 ≤ S.length) ∧ Hid (m ≤ a2) ∧ Hid (X = secX o2 (S.drop a2)) ∧ Hid (Gr W0 wx))
 case first =>
  cases bq with
  | false =>
   have hpq : partU o = o := by have := Hbq.out; simpa using this
   have HX2 : Hid (X = secX o (S.drop m)) := Lh (by rw [HX.out, secX_same hpq])
   clear hpq
   go_wp2_with fail
   go_meet
   exact ⟨o, m, rfl, rfl, Ho, Lh (by have := Hm.out; have := Hn1.out; omega), Lh (Nat.le_refl _), HX2, Lh (Gr.refl _)⟩
  | true =>
   have hpq : partU o ≠ o := by have := Hbq.out; simpa using this
   have HX2 : Hid (X = secondT (blkS (S.drop m))) := Lh (by rw [HX.out, secX_other hpq])
   clear hpq
   go_wp2_with fail
   go_loopw [12] (fun av wr => ∃ n : Nat, av = .int .i64 (n : Int) ∧ Hid (m ≤ n) ∧ Hid (n ≤ S.length) ∧ Hid (blkS (S.drop n) = blkS (S.drop m)) ∧ W0 = wr) (fun av _ => leftTo s.size av)
   case atStart => exact ⟨m, rfl, Lh (Nat.le_refl _), Lh (by have := Hm.out; have := Hn1.out; omega), Lh rfl, rfl⟩
   case round =>
    obtain ⟨n, rfl, hmn, hns, hbl, rfl⟩ := hrel
    have hsz := Hsz.out
    by_cases hc : n < S.length
    ·have hcs : n < s.size := by omega
     have hci : (n : Int) < (s.size : Int) := by omega
     have ex := HBy.out n hcs hc
     obtain ⟨x, hx⟩ : ∃ x, x = S[n] := ⟨_, rfl⟩
     rw [← hx] at ex
     have hi1 : (n : Int) + 1 ≤ 9223372036854775807 := by have := Hle.out; omega
     have hi2 : -9223372036854775808 ≤ (n : Int) + 1 := by omega
     have HKx := Lh (fun w => HK.out x.2.toNat w)
     cases hb : blkB x.2.toNat with
     | true =>
      rw [hb] at HKx
      have HB2 : Hid (blkS (S.drop (n + 1)) = blkS (S.drop m)) := Lh (by rw [← blkS_on hc (by rw [← hx]; exact hb)]; exact hbl.out)
      have Hc := Lh hc
      clear hx hb hsz hc
      go_wp2_with (go_at_call 51; refine (HKx.out _).mono ?_; rintro e1 w1 ⟨rfl, rfl⟩)
      go_roundw
      case rel => exact ⟨n + 1, rfl, Lh (by have := hmn.out; omega), Lh Hc.out, HB2, by first | rfl | trivial⟩
      case measure => simp only [leftTo]; have := Hsz.out; have := Hc.out; omega
     | false =>
      rw [hb] at HKx
      have hR : blkS (S.drop m) = S.drop n := by rw [← hbl.out]; exact blkS_at hc (by rw [← hx]; exact hb)
      have hD : S.drop n = x :: S.drop (n + 1) := by rw [hx]; exact List.drop_eq_getElem_cons hc
      have q1 : ((n : Int) == (s.size : Int)) = false := by simp; omega
      have HPx := Lh (fun w => HPa.out x.2.toNat w)
      have Hc := Lh hc
      cases hd : delimB x.2.toNat with
      | true =>
       obtain ⟨y1, _, y3⟩ := (partR_ok x.2).1 hd
       have q2 : (partR (x.2.toNat : Int) == 0) = false := by simpa using y3
       have HX3 : Hid (X = secX x.2 (S.drop (n + 1))) := Lh (by rw [HX2.out, hR, hD, secT_yes hd])
       have Hd := Lh hd
       clear hx hb hsz hc hR hD hd y1 y3
       go_wp2_with (first | (go_at_call 51; refine (HKx.out _).mono ?_; rintro e1 w1 ⟨rfl, rfl⟩) | (go_at_call 72; refine (HPx.out _).mono ?_; rintro e1 w1 ⟨rfl, rfl⟩))
       go_meet
       exact ⟨x.2, n + 1, rfl, rfl, Hd, Lh Hc.out, Lh (by have := hmn.out; omega), HX3, Lh (Gr.refl _)⟩
      | false =>
       have y1 := (partR_ok x.2).2 hd
       rw [y1] at HPx
       have HXn : Hid (X = none) := Lh (by rw [HX2.out, hR, hD, secT_no hd])
       clear hx hb hsz hc hR hD hd y1
       go_wp2_with (first | (go_at_call 51; refine (HKx.out _).mono ?_; rintro e1 w1 ⟨rfl, rfl⟩) | (go_at_call 72; refine (HPx.out _).mono ?_; rintro e1 w1 ⟨rfl, rfl⟩))
       go_ret
       rw [HXn.out]
       exact ⟨rfl, GA.out⟩
    ·have hci : decide ((n : Int) < (s.size : Int)) = false := by simp; omega
     have hci2 : ¬ (n : Int) < (s.size : Int) := by omega
     have hci3 : decide (n < s.size) = false := decide_eq_false (by omega)
     have q1 : ((n : Int) == (s.size : Int)) = true := by have := hns.out; simp; omega
     have HXn : Hid (X = none) := Lh (by rw [HX2.out, ← hbl.out, blkS_out (by omega)]; rfl)
     clear hsz hc
     go_wp2_with fail
     go_ret
     rw [HXn.out]
     exact ⟨rfl, GA.out⟩
 case rest =>
 obtain ⟨o2, a2, rfl, rfl, Ho2, Ha2, Hma, HX2, HG⟩ := hcut
 have hbd : s.data.toList.drop a2 = byt (S.drop a2) := by rw [HS.out, byt_drop]
 have HQ := Lh (fun w => quoted_r s (by have := Hsz.out; have := Hle.out; omega) o2 Ho2.out a2 (by have := Hsz.out; have := Ha2.out; omega) w)
 rw [hbd] at HQ
 have RC := Lh (H.out.gr (GA.out.trans HG.out))
 have GC := Lh (GA.out.trans HG.out)
 have KC := Lh ((HG.out.block _ (Ag KA.out).1).trans KA.out)
 clear c0 c1 c2 c3 c4 c5 c6 c7 c8 cf hbd
 obtain ⟨c0, c1, c2, c3, c4, c5, c6, c7, c8, cf⟩ := RC.out.sc.cells
 cases hq : endN o2 (partU o2) 0 (byt (S.drop a2)) with
 | none =>
  rw [hq] at HQ
  have HXn : Hid (X = none) := Lh (by rw [HX2.out, secX_none hq])
  rw [show optI ((none : Option Nat).map (· + a2)) = -1 from rfl] at HQ
  clear hq
  go_wp2_with (go_at_call 92; refine (HQ.out _).mono ?_; rintro e1 w1 ⟨rfl, rfl⟩)
  go_ret
  rw [HXn.out]
  exact ⟨rfl, GC.out⟩
 | some n =>
  rw [hq] at HQ
  have hnl := endN_lt _ _ _ _ _ hq
  rw [byt_len, List.length_drop] at hnl
  have HX3 := Lh (HX2.out.trans (secX_some hq))
  obtain ⟨L, hL⟩ : ∃ L, L = n + a2 := ⟨_, rfl⟩
  rw [← hL] at HX3
  rw [show optI ((some n).map (· + a2)) = ((n + a2 : Nat) : Int) from rfl, ← hL] at HQ
  have HLL : Hid (L < S.length) := Lh (by omega)
  have hsz := Hsz.out
  have hle := Hle.out
  have l0 : ¬ (L : Int) < 0 := by omega
  have l1 : (a2 : Int) ≤ (L : Int) := by omega
  have l2 : (L : Int) ≤ (s.size : Int) := by omega
  have l3 : decide ((L : Int) < 0) = false := decide_eq_false l0
  have HL := Lh hL
  clear hq hsz hle hnl hL
  obtain ⟨kc, kf⟩ := cellsOf KC.out
  have k0 := kc 0
  simp at k0
  clear kc
  have HT1 := Lh (fun w => plain_r tx (by omega) o (partU o) ((partR_ok o).1 Ho.out).1 w)
  have HT2 := Lh (fun w => plain_r (s.extract a2 L) (by have := Hsz.out; have := Hle.out; simp [ByteArray.size_extract]; omega) o2 (partU o2) ((partR_ok o2).1 Ho2.out).1 w)
  have HsL : Hid ((s.extract a2 L).data.toList = (byt (S.drop a2)).take n) := Lh (by rw [extractE, HS.out, byt_drop, HL.out]; congr 1; omega)
  rw [HsL.out] at HT2
  obtain ⟨tA, htA⟩ : ∃ tA, tA = ba (plR o (partU o) tx.data.toList) := ⟨_, rfl⟩
  obtain ⟨tB, htB⟩ : ∃ tB, tB = ba (plR o2 (partU o2) ((byt (S.drop a2)).take n)) := ⟨_, rfl⟩
  rw [← htA] at HT1
  rw [← htB] at HT2
  have HtA := Lh htA
  have HtB := Lh htB
  clear htA htB
  go_upto_region 17 with (go_at_call 92; refine (HQ.out _).mono ?_; rintro e1 w1 ⟨rfl, rfl⟩)
  go_wp2_with fail
  refine (HT1.out _).mono ?_
  rintro e2 w2 ⟨rfl, g2⟩
  have G2 := Lh (GC.out.trans g2)
  have KC2 := Lh ((g2.block _ (Ag KC.out).1).trans KC.out)
  clear g2
  go_wp2_with fail
  refine (HT2.out _).mono ?_
  rintro e3 w3 ⟨rfl, g3⟩
  have G3 := Lh (G2.out.trans g3)
  have RD := Lh (H.out.gr G3.out)
  have KD := Lh ((g3.block _ (Ag KC2.out).1).trans KC2.out)
  obtain ⟨kd, kg⟩ := cellsOf KD.out
  clear g3
  go_upto_region 19 with fail
  have hgP : w.heap.size ≠ P := by have := H.out.sc.lt; omega
  have htv : tv.ownBlock ≠ some w.heap.size := own_apart H.out.t (.inr (Nat.le_refl _))
  have K5 : Hid ((w3.setCell ⟨w.heap.size, 2, none⟩ (.string tA)).heap[w.heap.size]? = some (.cells #[.int .i64 9, .int .i64 0, .string tA, .string ⟨#[]⟩, .string ⟨#[]⟩, .int .i64 0] 42 (0, 0))) := Lh (by simp [World.setCell, Array.getElem?_modify, KD.out])
  have RY := Lh ((RD.out.other (j := 2) (u := .string tA) KD.out hgP htv).other (j := 3) (u := .string tB) K5.out hgP htv)
  have KY : Hid (((w3.setCell ⟨w.heap.size, 2, none⟩ (.string tA)).setCell ⟨w.heap.size, 3, none⟩ (.string tB)).heap[w.heap.size]? = some (.cells #[.int .i64 9, .int .i64 0, .string tA, .string tB, .string ⟨#[]⟩, .int .i64 0] 42 (0, 0))) := Lh (by simp [World.setCell, Array.getElem?_modify, KD.out])
  have FY : Hid (Fr P base w ((w3.setCell ⟨w.heap.size, 2, none⟩ (.string tA)).setCell ⟨w.heap.size, 3, none⟩ (.string tB))) := Lh (fr_two G3.out H.out.bw)
  generalize hY : (w3.setCell ⟨w.heap.size, 2, none⟩ (.string tA)).setCell ⟨w.heap.size, 3, none⟩ (.string tB) = Y at *
  have HgP := Lh hgP
  have Htv := Lh htv
  clear hY hgP htv k0 kf kd kg c0 c1 c2 c3 c4 c5 c6 c7 c8 cf
  obtain ⟨c0, c1, c2, c3, c4, c5, c6, c7, c8, cf⟩ := RY.out.sc.cells
  obtain ⟨kc, kf⟩ := cellsOf KY.out
  have k0 := kc 0
  have k1 := kc 1
  have k2 := kc 2
  have k3 := kc 3
  have k4 := kc 4
  have k5 := kc 5
  simp at k0 k1 k2 k3 k4 k5
  clear kc
  have hsz := Hsz.out
  have hle := Hle.out
  have hLL := HLL.out
  obtain ⟨M1, hM1⟩ : ∃ M1, M1 = L + 1 := ⟨_, rfl⟩
  have m1 : (L : Int) + 1 = (M1 : Int) := by omega
  have m2 : IntKind.i64.wrap (M1 : Int) = (M1 : Int) := by rw [IntKind.wrap_i64]; omega
  have m1a : (M1 : Int) ≤ 9223372036854775807 := by omega
  have m1b : -9223372036854775808 ≤ (M1 : Int) := by omega
  have HF := Lh (fun w => flags_r s ⟨#[99, 100, 114]⟩ (by omega) (by decide) M1 (by omega) w)
  have hfl : flagN s.data.toList M1 (⟨#[99, 100, 114]⟩ : ByteArray).data.toList 0 = flagS (S.drop M1) flagsT := by
   rw [flagN_off, HS.out]; unfold flagS; rw [byt_drop]; rfl
  have hbd := flagN_bd (l := s.data.toList) (a := M1) (⟨#[99, 100, 114]⟩ : ByteArray).data.toList 0 (by rw [sizeL]; omega)
  rw [hfl, sizeL] at hbd
  rw [hfl] at HF
  obtain ⟨n2, hn2⟩ : ∃ n2, n2 = flagS (S.drop M1) flagsT := ⟨_, rfl⟩
  rw [← hn2] at hbd HF
  obtain ⟨M2, hM2⟩ : ∃ M2, M2 = M1 + n2 := ⟨_, rfl⟩
  have m3 : (M1 : Int) + (n2 : Int) = (M2 : Int) := by omega
  have m4 : IntKind.i64.wrap (M2 : Int) = (M2 : Int) := by rw [IntKind.wrap_i64]; omega
  have m5 : (M1 : Int) ≤ (M2 : Int) := by omega
  have m6 : (M2 : Int) ≤ (s.size : Int) := by omega
  have m7 : (M2 : Int) ≤ 9223372036854775807 := by omega
  have m8 : -9223372036854775808 ≤ (M2 : Int) := by omega
  have HM1 := Lh hM1
  have HM2 := Lh hM2
  have Hn2 := Lh hn2
  have Hbd := Lh hbd
  clear hsz hle hLL hM1 hM2 hn2 hbd hfl
  go_wp2_with (go_at_call 97; refine (HF.out _).mono ?_; rintro e4 w4 ⟨rfl, g4⟩; have R4 := Lh (RY.out.gr g4); have K4 := Lh ((g4.block _ (Ag KY.out).1).trans KY.out); have F4 := Lh (FY.out.trans (Fr.of_but (But.of_gr g4) RY.out.bw)); obtain ⟨d0, d1, d2, d3, d4, d5, d6, d7, d8, df⟩ := R4.out.sc.cells; obtain ⟨kd, kg⟩ := cellsOf K4.out; have j0 := kd 0; have j1 := kd 1; have j2 := kd 2; have j3 := kd 3; have j4 := kd 4; have j5 := kd 5; simp at j0 j1 j2 j3 j4 j5; clear kd g4)
  have hmo : (s.extract M1 M2).data.toList = (byt (S.drop M1)).take (flagS (S.drop M1) flagsT) := by
   rw [extractE, HS.out, byt_drop, ← Hn2.out, HM2.out]; congr 1; omega
  have HLk := quo9_lk (G := G) (p := pl) (o := o) (o2 := o2) (raw := tx.data.toList) (raw2 := (byt (S.drop a2)).take n) (R2 := S.drop M1) hmo
  rw [← HtA.out, ← HtB.out, ← Hpl.out Hat.out] at HLk
  have R6 := R4.out.other (j := 4) (u := .string (s.extract M1 M2)) K4.out HgP.out Htv.out
  refine (put_g R6 Hat.out hks (p0 := 0) M2 _ HLk (by decide) rfl).mono ?_
  rintro e5 w5 ⟨rfl, tv', bv', kk, p1, p2⟩
  have HP1 := Lh p1
  have HP2 := Lh p2
  clear p1 p2 hmo HLk R6
  go_wp2_with fail
  go_ret
  rw [HX3.out]
  have eM : S.drop (L + 1) = S.drop M1 := by rw [HM1.out]
  have F6 : Fr P base w (w4.setCell ⟨w.heap.size, 4, none⟩ (.string (s.extract M1 M2))) := F4.out.trans ⟨rfl, rfl, rfl, by simp [World.setCell], fun k hk _ => by
   have : w.heap.size ≠ k := by have := H.out.bw; omega
   simp [World.setCell, Array.getElem?_modify, this]⟩
  refine ⟨rfl, M2, ?_, ?_, ?_, ?_⟩
  ·show PutP G P base true rt tms ks (quoT 9 pl tx.data.toList o o2 ((byt (S.drop a2)).take n) (S.drop (L + 1))) S M2 ops w w5
   rw [eM, ← Hpl.out Hat.out]
   exact ⟨s, pv, tv', bv', ov, kk, HP1.out, F6.trans HP2.out⟩
  ·show S.drop M2 = (S.drop (L + 1)).drop (quoF 9 (S.drop (L + 1)))
   rw [eM]
   show S.drop M2 = (S.drop M1).drop (flagS (S.drop M1) flagsT)
   rw [← Hn2.out, List.drop_drop, HM2.out]
  ·have := HM1.out; have := HM2.out; have := HL.out; have := Hma.out; have := Hm.out; omega
  ·have := Hbd.out; have := HM2.out; have := Hsz.out; omega
end Go.Proofs.YthmopindibdhnaaGreatDoor.G
namespace Go.Proofs.YthmopindibdhnaaGreatDoor.G
open Go.RowKit Go.Shelf Go.Maps
variable {w w' : World} {P base : Nat} {s : ByteArray} {pv : Value} {at_ : Nat} {tv bv : Value} {tm : Bool} {ov : Value} {en : Nat} {sg : Bool} {G : Prop} {S : Src} {rt : List RTok} {tms : List Bool} {ops : List Nat} {ks : List Tok}
def QuoR (G : Prop) (P base : Nat) (rt : List RTok) (tms : List Bool) (ks : List Tok) (S : Src) (ops : List Nat) (w : World) (d : Nat) (X : Option (RTok × Src)) (e : Ending) (w' : World) : Prop :=
 match X with
 | none => e = .returned (.bool false) ∧ Gr w w'
 | some r => e = .returned (.bool true) ∧ ∃ b, PutP G P base true rt tms ks r.1 S b ops w w' ∧ S.drop b = r.2 ∧ d < b ∧ b ≤ S.length
theorem quote_none {pl : Nat} {k : Int} {d : Nat} (hd : d < S.length) (h : endN S[d].2 (partU S[d].2) 0 (byt (S.drop (d + 1))) = none) : quoteS pl k (S.drop d) = none := by
 rw [List.drop_eq_getElem_cons hd]
 simp only [quoteS, part_end, h]
 rfl
theorem quote_4s {pl : Nat} {d n : Nat} (hd : d < S.length) (h : endN S[d].2 (partU S[d].2) 0 (byt (S.drop (d + 1))) = some n) : quoteS pl 4 (S.drop d) = some (⟨4, pl, 1, (byt (S.drop (d + 1))).take n, [], [], S[d].2, 0, 0⟩, (S.drop (d + 1)).drop (n + 1)) := by
 rw [List.drop_eq_getElem_cons hd]
 simp only [quoteS, part_end, h]
 rfl
theorem quo4_lk {G : Prop} {p : Nat} {o : UInt8} {raw : List UInt8} : Lk G ⟨4, (p : Int), ba (plR o (partU o) raw), ⟨#[]⟩, ⟨#[]⟩, 0⟩ ⟨4, p, 1, raw, [], [], o, 0, 0⟩ := by
 refine ⟨rfl, rfl, fun e => absurd (show (4 : Nat) = 3 from e) (by decide), fun _ => ?_⟩
 have e1 : textP ⟨4, p, 1, raw, [], [], o, 0, 0⟩ = plR o (partU o) raw := by rw [← pl_eq]; rfl
 unfold rend
 rw [e1]; rfl
set_option maxRecDepth 100000 in
set_option maxHeartbeats 4000000 in
theorem quote_4 (h : RSt G w P base S at_ true en rt tms ops ks s pv tv bv ov) (hat : at_ < S.length) (hks : ks.length ≤ 4000) (d : Nat) (hd : d < S.length) (ho : delimB S[d].2.toNat = true) :
  Calls Tryz.prog 74 #[.pointer (some ⟨P, 0, none⟩), .int .i64 4, .int .i64 (d : Int)] w (QuoR G P base rt tms ks S ops w d (quoteS S[at_].1 4 (S.drop d))) := by
 obtain ⟨X, hX⟩ : ∃ X, X = quoteS S[at_].1 4 (S.drop d) := ⟨_, rfl⟩
 rw [← hX]
 have HX := Lh hX
 have hsz := h.size
 have hle := h.le
 have HS := Lh h.eq
 have H := Lh h
 have ex := byt_at h.eq d (by omega) hd
 obtain ⟨o, hoo⟩ : ∃ o, o = S[d].2 := ⟨_, rfl⟩
 rw [← hoo] at ho ex
 obtain ⟨m, hm⟩ : ∃ m, m = d + 1 := ⟨_, rfl⟩
 have hm1 : (d : Int) + 1 = (m : Int) := by omega
 have hm2 : (m : Int) ≤ 9223372036854775807 := by omega
 have hm3 : -9223372036854775808 ≤ (m : Int) := by omega
 have hwm : IntKind.i64.wrap (m : Int) = (m : Int) := by rw [IntKind.wrap_i64]; omega
 have hds : (d : Int) < (s.size : Int) := by omega
 have hbd : s.data.toList.drop m = byt (S.drop m) := by rw [HS.out, byt_drop]
 have HQ := Lh (fun w => quoted_r s (by omega) o ho m (by omega) w)
 rw [hbd] at HQ
 obtain ⟨c0, c1, c2, c3, c4, c5, c6, c7, c8, cf⟩ := h.sc.cells
 cases hq : endN o (partU o) 0 (byt (S.drop m)) with
 | none =>
  rw [hq] at HQ
  have HXn : Hid (X = none) := Lh (by rw [HX.out]; exact quote_none hd (by rw [← hoo, ← hm]; exact hq))
  rw [show optI ((none : Option Nat).map (· + m)) = -1 from rfl] at HQ
  clear hq h hX hoo hm hbd hle
  go_enter Tryz.func74, Tryz.ntmps74
  go_wp2_with (go_at_call 92; refine (HQ.out _).mono ?_; rintro e1 w1 ⟨rfl, rfl⟩)
  go_ret
  rw [HXn.out]
  exact ⟨rfl, Gr.refl w⟩
 | some n =>
  rw [hq] at HQ
  have hnl := endN_lt _ _ _ _ _ hq
  rw [byt_len, List.length_drop] at hnl
  have HX3 : Hid (X = some (⟨4, S[at_].1, 1, (byt (S.drop m)).take n, [], [], o, 0, 0⟩, (S.drop m).drop (n + 1))) := Lh (by rw [HX.out, quote_4s hd (by rw [← hoo, ← hm]; exact hq), ← hoo, ← hm])
  obtain ⟨L, hL⟩ : ∃ L, L = n + m := ⟨_, rfl⟩
  rw [show optI ((some n).map (· + m)) = ((n + m : Nat) : Int) from rfl, ← hL] at HQ
  have HLL : Hid (L < S.length) := Lh (by omega)
  have l0 : ¬ (L : Int) < 0 := by omega
  have l1 : (m : Int) ≤ (L : Int) := by omega
  have l2 : (L : Int) ≤ (s.size : Int) := by omega
  have l3 : decide ((L : Int) < 0) = false := decide_eq_false l0
  obtain ⟨M1, hM1⟩ : ∃ M1, M1 = L + 1 := ⟨_, rfl⟩
  have m1 : (L : Int) + 1 = (M1 : Int) := by omega
  have m2 : IntKind.i64.wrap (M1 : Int) = (M1 : Int) := by rw [IntKind.wrap_i64]; omega
  have m1a : (M1 : Int) ≤ 9223372036854775807 := by omega
  have m1b : -9223372036854775808 ≤ (M1 : Int) := by omega
  have HT1 := Lh (fun w => plain_r (s.extract m L) (by simp [ByteArray.size_extract]; omega) o (partU o) ((partR_ok o).1 ho).1 w)
  rw [show (s.extract m L).data.toList = (byt (S.drop m)).take n by rw [extractE, HS.out, byt_drop, hL]; congr 1; omega] at HT1
  obtain ⟨tA, htA⟩ : ∃ tA, tA = ba (plR o (partU o) ((byt (S.drop m)).take n)) := ⟨_, rfl⟩
  rw [← htA] at HT1
  have HtA := Lh htA
  have GA := Lh ((Gr.refl w).alloc (.cells #[.int .i64 4, .int .i64 0, .string ⟨#[]⟩, .string ⟨#[]⟩, .string ⟨#[]⟩, .int .i64 0] 42))
  have KA := Lh (heap_alloc_new w (.cells #[.int .i64 4, .int .i64 0, .string ⟨#[]⟩, .string ⟨#[]⟩, .string ⟨#[]⟩, .int .i64 0] 42))
  obtain ⟨d0, d1, d2, d3, d4, d5, d6, d7, d8, df⟩ := (h.sc.gr GA.out).cells
  have hgP : w.heap.size ≠ P := by have := H.out.sc.lt; omega
  have htv : tv.ownBlock ≠ some w.heap.size := own_apart H.out.t (.inr (Nat.le_refl _))
  have HgP := Lh hgP
  have Htv := Lh htv
  have HL := Lh hL
  have HM1 := Lh hM1
  have Hm := Lh hm
  have Hat := Lh hat
  clear hq h hX hoo hm hbd hle hnl hL hM1 htA hgP htv ho
  go_enter Tryz.func74, Tryz.ntmps74
  go_upto_region 9 with (go_at_call 92; refine (HQ.out _).mono ?_; rintro e1 w1 ⟨rfl, rfl⟩)
  go_wp2_with fail
  refine (HT1.out _).mono ?_
  rintro e2 w2 ⟨rfl, g2⟩
  have G2 := Lh (GA.out.trans g2)
  have K2 := Lh ((g2.block _ (Ag KA.out).1).trans KA.out)
  have R2 := Lh (H.out.gr G2.out)
  clear g2 c0 c1 c2 c3 c4 c5 c6 c7 c8 cf d0 d1 d2 d3 d4 d5 d6 d7 d8 df
  obtain ⟨c0, c1, c2, c3, c4, c5, c6, c7, c8, cf⟩ := R2.out.sc.cells
  obtain ⟨kc, kf⟩ := cellsOf K2.out
  have k0 := kc 0
  have k1 := kc 1
  have k2 := kc 2
  have k3 := kc 3
  have k4 := kc 4
  have k5 := kc 5
  simp at k0 k1 k2 k3 k4 k5
  clear kc
  go_wp2_with fail
  have HLk := quo4_lk (G := G) (p := S[at_].1) (o := o) (raw := (byt (S.drop m)).take n)
  rw [← HtA.out] at HLk
  have R6 := R2.out.other (j := 2) (u := .string tA) K2.out HgP.out Htv.out
  refine (put_g R6 Hat.out hks (p0 := 0) M1 _ HLk (by decide) rfl).mono ?_
  rintro e5 w5 ⟨rfl, tv', bv', kk, p1, p2⟩
  have HP1 := Lh p1
  have HP2 := Lh p2
  clear p1 p2 HLk R6
  go_wp2_with fail
  go_ret
  rw [HX3.out]
  have F6 : Fr P base w (w2.setCell ⟨w.heap.size, 2, none⟩ (.string tA)) := (Fr.of_but (But.of_gr G2.out) H.out.bw).trans ⟨rfl, rfl, rfl, by simp [World.setCell], fun k hk _ => by
   have : w.heap.size ≠ k := by have := H.out.bw; omega
   simp [World.setCell, Array.getElem?_modify, this]⟩
  refine ⟨rfl, M1, ⟨s, pv, tv', bv', ov, kk, HP1.out, F6.trans HP2.out⟩, ?_, ?_, ?_⟩
  ·show S.drop M1 = (S.drop m).drop (n + 1)
   rw [List.drop_drop]; congr 1; have := HM1.out; have := HL.out; omega
  ·have := HM1.out; have := HL.out; have := Hm.out; omega
  ·have := HM1.out; have := HLL.out; omega
end Go.Proofs.YthmopindibdhnaaGreatDoor.G
namespace Go.Proofs.YthmopindibdhnaaGreatDoor.G
open Go.RowKit Go.Shelf Go.Maps
variable {w w' : World} {P base : Nat} {s : ByteArray} {pv : Value} {at_ : Nat} {tv bv : Value} {tm : Bool} {ov : Value} {en : Nat} {sg : Bool} {G : Prop} {S : Src} {rt : List RTok} {tms : List Bool} {ops : List Nat} {ks : List Tok}
theorem quote_5s {pl : Nat} {d n : Nat} (hd : d < S.length) (h : endN S[d].2 (partU S[d].2) 0 (byt (S.drop (d + 1))) = some n) : quoteS pl 5 (S.drop d) = some (⟨5, pl, 2, (byt (S.drop (d + 1))).take n, [], [], S[d].2, 0, 0⟩, (S.drop (d + 1)).drop (n + 1)) := by
 rw [List.drop_eq_getElem_cons hd]
 simp only [quoteS, part_end, h]
 rfl
theorem quo5_lk {G : Prop} {p : Nat} {o : UInt8} {raw : List UInt8} (h1 : o ≠ 92) (h2 : partU o ≠ 92) : Lk G ⟨5, (p : Int), ba (inR o (partU o) false raw), ⟨#[]⟩, ⟨#[]⟩, 0⟩ ⟨5, p, 2, raw, [], [], o, 0, 0⟩ := by
 refine ⟨rfl, rfl, fun e => absurd (show (5 : Nat) = 3 from e) (by decide), fun _ => ?_⟩
 have e1 : textP ⟨5, p, 2, raw, [], [], o, 0, 0⟩ = inR o (partU o) false raw := by rw [← in_eq o h1 h2]; rfl
 unfold rend
 rw [e1]; rfl
set_option maxRecDepth 100000 in
set_option maxHeartbeats 4000000 in
theorem quote_5 (h : RSt G w P base S at_ true en rt tms ops ks s pv tv bv ov) (hat : at_ < S.length) (hks : ks.length ≤ 4000) (d : Nat) (hd : d < S.length) (ho : delimB S[d].2.toNat = true) :
  Calls Tryz.prog 74 #[.pointer (some ⟨P, 0, none⟩), .int .i64 5, .int .i64 (d : Int)] w (QuoR G P base rt tms ks S ops w d (quoteS S[at_].1 5 (S.drop d))) := by
 obtain ⟨X, hX⟩ : ∃ X, X = quoteS S[at_].1 5 (S.drop d) := ⟨_, rfl⟩
 rw [← hX]
 have HX := Lh hX
 have hsz := h.size
 have hle := h.le
 have HS := Lh h.eq
 have H := Lh h
 have ex := byt_at h.eq d (by omega) hd
 obtain ⟨o, hoo⟩ : ∃ o, o = S[d].2 := ⟨_, rfl⟩
 rw [← hoo] at ho ex
 obtain ⟨m, hm⟩ : ∃ m, m = d + 1 := ⟨_, rfl⟩
 have hm1 : (d : Int) + 1 = (m : Int) := by omega
 have hm2 : (m : Int) ≤ 9223372036854775807 := by omega
 have hm3 : -9223372036854775808 ≤ (m : Int) := by omega
 have hwm : IntKind.i64.wrap (m : Int) = (m : Int) := by rw [IntKind.wrap_i64]; omega
 have hds : (d : Int) < (s.size : Int) := by omega
 have hbd : s.data.toList.drop m = byt (S.drop m) := by rw [HS.out, byt_drop]
 have HQ := Lh (fun w => quoted_r s (by omega) o ho m (by omega) w)
 rw [hbd] at HQ
 obtain ⟨c0, c1, c2, c3, c4, c5, c6, c7, c8, cf⟩ := h.sc.cells
 cases hq : endN o (partU o) 0 (byt (S.drop m)) with
 | none =>
  rw [hq] at HQ
  have HXn : Hid (X = none) := Lh (by rw [HX.out]; exact quote_none hd (by rw [← hoo, ← hm]; exact hq))
  rw [show optI ((none : Option Nat).map (· + m)) = -1 from rfl] at HQ
  clear hq h hX hoo hm hbd hle
  go_enter Tryz.func74, Tryz.ntmps74
  go_wp2_with (go_at_call 92; refine (HQ.out _).mono ?_; rintro e1 w1 ⟨rfl, rfl⟩)
  go_ret
  rw [HXn.out]
  exact ⟨rfl, Gr.refl w⟩
 | some n =>
  rw [hq] at HQ
  have hnl := endN_lt _ _ _ _ _ hq
  rw [byt_len, List.length_drop] at hnl
  have HX3 : Hid (X = some (⟨5, S[at_].1, 2, (byt (S.drop m)).take n, [], [], o, 0, 0⟩, (S.drop m).drop (n + 1))) := Lh (by rw [HX.out, quote_5s hd (by rw [← hoo, ← hm]; exact hq), ← hoo, ← hm])
  obtain ⟨L, hL⟩ : ∃ L, L = n + m := ⟨_, rfl⟩
  rw [show optI ((some n).map (· + m)) = ((n + m : Nat) : Int) from rfl, ← hL] at HQ
  have HLL : Hid (L < S.length) := Lh (by omega)
  have l0 : ¬ (L : Int) < 0 := by omega
  have l1 : (m : Int) ≤ (L : Int) := by omega
  have l2 : (L : Int) ≤ (s.size : Int) := by omega
  have l3 : decide ((L : Int) < 0) = false := decide_eq_false l0
  obtain ⟨M1, hM1⟩ : ∃ M1, M1 = L + 1 := ⟨_, rfl⟩
  have m1 : (L : Int) + 1 = (M1 : Int) := by omega
  have m2 : IntKind.i64.wrap (M1 : Int) = (M1 : Int) := by rw [IntKind.wrap_i64]; omega
  have m1a : (M1 : Int) ≤ 9223372036854775807 := by omega
  have m1b : -9223372036854775808 ≤ (M1 : Int) := by omega
  have ho92 : o ≠ 92 := fun e => by rw [e] at ho; exact absurd ho (by decide)
  have Ho92 := Lh ho92
  have Hp92 := Lh ((partR_ok o).1 ho).2.1
  have HT1 := Lh (fun w => inter_r (s.extract m L) (by simp [ByteArray.size_extract]; omega) o (partU o) ((partR_ok o).1 ho).1 false w)
  rw [show (s.extract m L).data.toList = (byt (S.drop m)).take n by rw [extractE, HS.out, byt_drop, hL]; congr 1; omega] at HT1
  obtain ⟨tA, htA⟩ : ∃ tA, tA = ba (inR o (partU o) false ((byt (S.drop m)).take n)) := ⟨_, rfl⟩
  rw [← htA] at HT1
  have HtA := Lh htA
  have GA := Lh ((Gr.refl w).alloc (.cells #[.int .i64 5, .int .i64 0, .string ⟨#[]⟩, .string ⟨#[]⟩, .string ⟨#[]⟩, .int .i64 0] 42))
  have KA := Lh (heap_alloc_new w (.cells #[.int .i64 5, .int .i64 0, .string ⟨#[]⟩, .string ⟨#[]⟩, .string ⟨#[]⟩, .int .i64 0] 42))
  obtain ⟨d0, d1, d2, d3, d4, d5, d6, d7, d8, df⟩ := (h.sc.gr GA.out).cells
  have hgP : w.heap.size ≠ P := by have := H.out.sc.lt; omega
  have htv : tv.ownBlock ≠ some w.heap.size := own_apart H.out.t (.inr (Nat.le_refl _))
  have HgP := Lh hgP
  have Htv := Lh htv
  have HL := Lh hL
  have HM1 := Lh hM1
  have Hm := Lh hm
  have Hat := Lh hat
  clear hq h hX hoo hm hbd hle hnl hL hM1 htA hgP htv ho ho92
  go_enter Tryz.func74, Tryz.ntmps74
  go_upto_region 11 with (go_at_call 92; refine (HQ.out _).mono ?_; rintro e1 w1 ⟨rfl, rfl⟩)
  go_wp2_with fail
  refine (HT1.out _).mono ?_
  rintro e2 w2 ⟨rfl, g2⟩
  have G2 := Lh (GA.out.trans g2)
  have K2 := Lh ((g2.block _ (Ag KA.out).1).trans KA.out)
  have R2 := Lh (H.out.gr G2.out)
  clear g2 c0 c1 c2 c3 c4 c5 c6 c7 c8 cf d0 d1 d2 d3 d4 d5 d6 d7 d8 df
  obtain ⟨c0, c1, c2, c3, c4, c5, c6, c7, c8, cf⟩ := R2.out.sc.cells
  obtain ⟨kc, kf⟩ := cellsOf K2.out
  have k0 := kc 0
  have k1 := kc 1
  have k2 := kc 2
  have k3 := kc 3
  have k4 := kc 4
  have k5 := kc 5
  simp at k0 k1 k2 k3 k4 k5
  clear kc
  go_wp2_with fail
  have HLk := quo5_lk (G := G) (p := S[at_].1) (raw := (byt (S.drop m)).take n) Ho92.out Hp92.out
  rw [← HtA.out] at HLk
  have R6 := R2.out.other (j := 2) (u := .string tA) K2.out HgP.out Htv.out
  refine (put_g R6 Hat.out hks (p0 := 0) M1 _ HLk (by decide) rfl).mono ?_
  rintro e5 w5 ⟨rfl, tv', bv', kk, p1, p2⟩
  have HP1 := Lh p1
  have HP2 := Lh p2
  clear p1 p2 HLk R6
  go_wp2_with fail
  go_ret
  rw [HX3.out]
  have F6 : Fr P base w (w2.setCell ⟨w.heap.size, 2, none⟩ (.string tA)) := (Fr.of_but (But.of_gr G2.out) H.out.bw).trans ⟨rfl, rfl, rfl, by simp [World.setCell], fun k hk _ => by
   have : w.heap.size ≠ k := by have := H.out.bw; omega
   simp [World.setCell, Array.getElem?_modify, this]⟩
  refine ⟨rfl, M1, ⟨s, pv, tv', bv', ov, kk, HP1.out, F6.trans HP2.out⟩, ?_, ?_, ?_⟩
  ·show S.drop M1 = (S.drop m).drop (n + 1)
   rw [List.drop_drop]; congr 1; have := HM1.out; have := HL.out; omega
  ·have := HM1.out; have := HL.out; have := Hm.out; omega
  ·have := HM1.out; have := HLL.out; omega
end Go.Proofs.YthmopindibdhnaaGreatDoor.G
namespace Go.Proofs.YthmopindibdhnaaGreatDoor.G
open Go.RowKit Go.Shelf Go.Maps
variable {w w' : World} {P base : Nat} {s : ByteArray} {pv : Value} {at_ : Nat} {tv bv : Value} {tm : Bool} {ov : Value} {en : Nat} {sg : Bool} {G : Prop} {S : Src} {rt : List RTok} {tms : List Bool} {ops : List Nat} {ks : List Tok}
theorem quote_6s {pl : Nat} {d n : Nat} (hd : d < S.length) (h : endN S[d].2 (partU S[d].2) 0 (byt (S.drop (d + 1))) = some n) : quoteS pl 6 (S.drop d) = some (⟨6, pl, 3, (byt (S.drop (d + 1))).take n, [], [], S[d].2, 0, 0⟩, (S.drop (d + 1)).drop (n + 1)) := by
 rw [List.drop_eq_getElem_cons hd]
 simp only [quoteS, part_end, h]
 rfl
theorem plR_mem (o q : UInt8) : ∀ (n : Nat) (l : List UInt8), l.length ≤ n → ∀ c ∈ plR o q l, c ∈ l
 | 0, l, hl, c, hc => by
  have : l = [] := List.eq_nil_of_length_eq_zero (by omega)
  subst this
  simp [plR] at hc
 | n + 1, [], _, c, hc => by simp [plR] at hc
 | n + 1, [x], _, c, hc => by simpa [plR] using hc
 | n + 1, x :: y :: t, hl, c, hc => by
  rw [plR] at hc
  split at hc
  ·rcases List.mem_cons.1 hc with hc | hc
   ·simp [hc]
   ·have := plR_mem o q n t (by simp at hl; omega) c hc
    simp [this]
  ·rcases List.mem_cons.1 hc with hc | hc
   ·simp [hc]
   ·have := plR_mem o q n (y :: t) (by simp at hl ⊢; omega) c hc
    simp at this ⊢; exact .inr this
theorem quo6_lk {G : Prop} {p : Nat} {o : UInt8} {raw : List UInt8} (hG : G → ∀ c ∈ raw, ownC c = true) : Lk G ⟨6, (p : Int), ba (wordsR (plR o (partU o) raw)), ⟨#[]⟩, ⟨#[]⟩, 0⟩ ⟨6, p, 3, raw, [], [], o, 0, 0⟩ := by
 refine ⟨rfl, rfl, fun e => absurd (show (6 : Nat) = 3 from e) (by decide), fun g => ?_⟩
 have e1 : textP ⟨6, p, 3, raw, [], [], o, 0, 0⟩ = wordsR (plR o (partU o) raw) := by
  rw [← words_eq _ (fun c hc => hG g c (plR_mem o (partU o) _ raw (Nat.le_refl _) c hc)), ← pl_eq]; rfl
 unfold rend
 rw [e1]; rfl
set_option maxRecDepth 100000 in
set_option maxHeartbeats 4000000 in
theorem quote_6 (h : RSt G w P base S at_ true en rt tms ops ks s pv tv bv ov) (hat : at_ < S.length) (hks : ks.length ≤ 4000) (d : Nat) (hd : d < S.length) (ho : delimB S[d].2.toNat = true) :
  Calls Tryz.prog 74 #[.pointer (some ⟨P, 0, none⟩), .int .i64 6, .int .i64 (d : Int)] w (QuoR G P base rt tms ks S ops w d (quoteS S[at_].1 6 (S.drop d))) := by
 obtain ⟨X, hX⟩ : ∃ X, X = quoteS S[at_].1 6 (S.drop d) := ⟨_, rfl⟩
 rw [← hX]
 have HX := Lh hX
 have hsz := h.size
 have hle := h.le
 have HS := Lh h.eq
 have H := Lh h
 have ex := byt_at h.eq d (by omega) hd
 obtain ⟨o, hoo⟩ : ∃ o, o = S[d].2 := ⟨_, rfl⟩
 rw [← hoo] at ho ex
 obtain ⟨m, hm⟩ : ∃ m, m = d + 1 := ⟨_, rfl⟩
 have hm1 : (d : Int) + 1 = (m : Int) := by omega
 have hm2 : (m : Int) ≤ 9223372036854775807 := by omega
 have hm3 : -9223372036854775808 ≤ (m : Int) := by omega
 have hwm : IntKind.i64.wrap (m : Int) = (m : Int) := by rw [IntKind.wrap_i64]; omega
 have hds : (d : Int) < (s.size : Int) := by omega
 have hbd : s.data.toList.drop m = byt (S.drop m) := by rw [HS.out, byt_drop]
 have HQ := Lh (fun w => quoted_r s (by omega) o ho m (by omega) w)
 rw [hbd] at HQ
 obtain ⟨c0, c1, c2, c3, c4, c5, c6, c7, c8, cf⟩ := h.sc.cells
 cases hq : endN o (partU o) 0 (byt (S.drop m)) with
 | none =>
  rw [hq] at HQ
  have HXn : Hid (X = none) := Lh (by rw [HX.out]; exact quote_none hd (by rw [← hoo, ← hm]; exact hq))
  rw [show optI ((none : Option Nat).map (· + m)) = -1 from rfl] at HQ
  clear hq h hX hoo hm hbd hle
  go_enter Tryz.func74, Tryz.ntmps74
  go_wp2_with (go_at_call 92; refine (HQ.out _).mono ?_; rintro e1 w1 ⟨rfl, rfl⟩)
  go_ret
  rw [HXn.out]
  exact ⟨rfl, Gr.refl w⟩
 | some n =>
  rw [hq] at HQ
  have hnl := endN_lt _ _ _ _ _ hq
  rw [byt_len, List.length_drop] at hnl
  have HX3 : Hid (X = some (⟨6, S[at_].1, 3, (byt (S.drop m)).take n, [], [], o, 0, 0⟩, (S.drop m).drop (n + 1))) := Lh (by rw [HX.out, quote_6s hd (by rw [← hoo, ← hm]; exact hq), ← hoo, ← hm])
  obtain ⟨L, hL⟩ : ∃ L, L = n + m := ⟨_, rfl⟩
  rw [show optI ((some n).map (· + m)) = ((n + m : Nat) : Int) from rfl, ← hL] at HQ
  have HLL : Hid (L < S.length) := Lh (by omega)
  have l0 : ¬ (L : Int) < 0 := by omega
  have l1 : (m : Int) ≤ (L : Int) := by omega
  have l2 : (L : Int) ≤ (s.size : Int) := by omega
  have l3 : decide ((L : Int) < 0) = false := decide_eq_false l0
  obtain ⟨M1, hM1⟩ : ∃ M1, M1 = L + 1 := ⟨_, rfl⟩
  have m1 : (L : Int) + 1 = (M1 : Int) := by omega
  have m2 : IntKind.i64.wrap (M1 : Int) = (M1 : Int) := by rw [IntKind.wrap_i64]; omega
  have m1a : (M1 : Int) ≤ 9223372036854775807 := by omega
  have m1b : -9223372036854775808 ≤ (M1 : Int) := by omega
  have HT1 := Lh (fun w => plain_r (s.extract m L) (by simp [ByteArray.size_extract]; omega) o (partU o) ((partR_ok o).1 ho).1 w)
  rw [show (s.extract m L).data.toList = (byt (S.drop m)).take n by rw [extractE, HS.out, byt_drop, hL]; congr 1; omega] at HT1
  obtain ⟨tA, htA⟩ : ∃ tA, tA = ba (wordsR (plR o (partU o) ((byt (S.drop m)).take n))) := ⟨_, rfl⟩
  obtain ⟨tB, htB⟩ : ∃ tB, tB = ba (plR o (partU o) ((byt (S.drop m)).take n)) := ⟨_, rfl⟩
  rw [← htB] at HT1
  have hBs : tB.size ≤ 4000 := by rw [← sizeL, htB, ba_data]; have := plR_len o (partU o) ((byt (S.drop m)).take n); simp at this; omega
  have HW1 := Lh (fun w => words_r tB (by omega) w)
  rw [show wordsR tB.data.toList = wordsR (plR o (partU o) ((byt (S.drop m)).take n)) by rw [htB, ba_data], ← htA] at HW1
  have HG6 : Hid (G → ∀ c ∈ (byt (S.drop m)).take n, ownC c = true) := Lh (fun g c hc => h.gs g c (by have := List.mem_of_mem_take hc; rw [byt_drop] at this; exact List.mem_of_mem_drop this))
  have HtA := Lh htA
  have GA := Lh ((Gr.refl w).alloc (.cells #[.int .i64 6, .int .i64 0, .string ⟨#[]⟩, .string ⟨#[]⟩, .string ⟨#[]⟩, .int .i64 0] 42))
  have KA := Lh (heap_alloc_new w (.cells #[.int .i64 6, .int .i64 0, .string ⟨#[]⟩, .string ⟨#[]⟩, .string ⟨#[]⟩, .int .i64 0] 42))
  obtain ⟨d0, d1, d2, d3, d4, d5, d6, d7, d8, df⟩ := (h.sc.gr GA.out).cells
  have hgP : w.heap.size ≠ P := by have := H.out.sc.lt; omega
  have htv : tv.ownBlock ≠ some w.heap.size := own_apart H.out.t (.inr (Nat.le_refl _))
  have HgP := Lh hgP
  have Htv := Lh htv
  have HL := Lh hL
  have HM1 := Lh hM1
  have Hm := Lh hm
  have Hat := Lh hat
  clear hq h hX hoo hm hbd hle hnl hL hM1 htA hgP htv ho htB hBs
  go_enter Tryz.func74, Tryz.ntmps74
  go_upto_region 13 with (go_at_call 92; refine (HQ.out _).mono ?_; rintro e1 w1 ⟨rfl, rfl⟩)
  go_wp2_with fail
  refine (HT1.out _).mono ?_
  rintro e2 w2 ⟨rfl, g2⟩
  go_wp2_with fail
  refine (HW1.out _).mono ?_
  rintro e3 w3 ⟨rfl, g3⟩
  have G2 := Lh (GA.out.trans (g2.trans g3))
  have K2 := Lh (((g2.trans g3).block _ (Ag KA.out).1).trans KA.out)
  have R2 := Lh (H.out.gr G2.out)
  clear g2 g3 c0 c1 c2 c3 c4 c5 c6 c7 c8 cf d0 d1 d2 d3 d4 d5 d6 d7 d8 df
  obtain ⟨c0, c1, c2, c3, c4, c5, c6, c7, c8, cf⟩ := R2.out.sc.cells
  obtain ⟨kc, kf⟩ := cellsOf K2.out
  have k0 := kc 0
  have k1 := kc 1
  have k2 := kc 2
  have k3 := kc 3
  have k4 := kc 4
  have k5 := kc 5
  simp at k0 k1 k2 k3 k4 k5
  clear kc
  go_wp2_with fail
  have HLk := quo6_lk (G := G) (p := S[at_].1) (o := o) (raw := (byt (S.drop m)).take n) HG6.out
  rw [← HtA.out] at HLk
  have R6 := R2.out.other (j := 2) (u := .string tA) K2.out HgP.out Htv.out
  refine (put_g R6 Hat.out hks (p0 := 0) M1 _ HLk (by decide) rfl).mono ?_
  rintro e5 w5 ⟨rfl, tv', bv', kk, p1, p2⟩
  have HP1 := Lh p1
  have HP2 := Lh p2
  clear p1 p2 HLk R6
  go_wp2_with fail
  go_ret
  rw [HX3.out]
  have F6 : Fr P base w (w3.setCell ⟨w.heap.size, 2, none⟩ (.string tA)) := (Fr.of_but (But.of_gr G2.out) H.out.bw).trans ⟨rfl, rfl, rfl, by simp [World.setCell], fun k hk _ => by
   have : w.heap.size ≠ k := by have := H.out.bw; omega
   simp [World.setCell, Array.getElem?_modify, this]⟩
  refine ⟨rfl, M1, ⟨s, pv, tv', bv', ov, kk, HP1.out, F6.trans HP2.out⟩, ?_, ?_, ?_⟩
  ·show S.drop M1 = (S.drop m).drop (n + 1)
   rw [List.drop_drop]; congr 1; have := HM1.out; have := HL.out; omega
  ·have := HM1.out; have := HL.out; have := Hm.out; omega
  ·have := HM1.out; have := HLL.out; omega
end Go.Proofs.YthmopindibdhnaaGreatDoor.G
