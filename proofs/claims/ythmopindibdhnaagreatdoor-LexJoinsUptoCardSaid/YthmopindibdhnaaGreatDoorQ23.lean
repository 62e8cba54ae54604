import Derived.Test.YthmopindibdhnaaGreatDoorQ00
import Derived.Test.YthmopindibdhnaaGreatDoorQ21
import Derived.StillTailTactics
import Derived.Test.YthmopindibdhnaaGreatDoorQ22
namespace Go.Proofs.YthmopindibdhnaaGreatDoor.G
open Go.RowKit Go.Shelf Go.Maps
variable {w w' : World} {P base : Nat} {s : ByteArray} {pv : Value} {at_ : Nat} {tv bv : Value} {tm : Bool} {ov : Value} {en : Nat} {sg : Bool} {G : Prop} {S : Src} {rt : List RTok} {tms : List Bool} {ops : List Nat} {ks : List Tok}
def PutP (G : Prop) (P base : Nat) (tm : Bool) (rt : List RTok) (tms : List Bool) (ks : List Tok) (t : RTok) (S : Src) (b : Nat) (ops : List Nat) (w w' : World) : Prop :=
 ∃ s pv tv bv ov kk, RSt G w' P base S b (behindB t.kind t.raw t.opn tm) b (t :: rt) (tm :: tms) ops (kk :: ks) s pv tv bv ov ∧ Fr P base w w'
def sgnB : List UInt8 → Bool
 | c :: d :: _ => sigilB c.toNat && (d == 36 || d == 123)
 | _ => false
def VarP (G : Prop) (P base : Nat) (rt : List RTok) (tms : List Bool) (ks : List Tok) (S : Src) (a : Nat) (ops : List Nat) (w : World) (X : Option Nat) (b : Bool) (e : Ending) (w' : World) : Prop :=
 match X with
 | none => e = .returned (.int .i64 (-1)) ∧ Gr w w'
 | some 0 => match b with
  | true => e = .returned (.int .i64 1) ∧ PutP G P base true rt tms ks (asIs 3 1 (S.drop a)).1 S (a + 1) ops w w'
  | false => e = .returned (.int .i64 0) ∧ Gr w w'
 | some (n + 1) => e = .returned (.int .i64 1) ∧ PutP G P base true rt tms ks (asIs 2 (n + 1) (S.drop a)).1 S (a + (n + 1)) ops w w'
theorem put_asIs (h : RSt G w P base S at_ tm en rt tms ops ks s pv tv bv ov) (hat : at_ < S.length) (hks : ks.length ≤ 4000) (k n : Nat) (hk : k ≤ 9) {tx : ByteArray} (htx : tx.data.toList = (byt (S.drop at_)).take n) :
  Calls Tryz.prog 55 #[.pointer (some ⟨P, 0, none⟩), .agg #[.int .i64 (k : Int), .int .i64 0, .string tx, .string ⟨#[]⟩, .string ⟨#[]⟩, .int .i64 0], .int .i64 ((at_ + n : Nat) : Int)] w fun e w' => e = .returned (.tuple #[]) ∧ PutP G P base tm rt tms ks (asIs k n (S.drop at_)).1 S (at_ + n) ops w w' := by
 refine (put_g h hat hks (p0 := 0) (at_ + n) _ (asIs_lk hat htx) (by omega) ?_).mono ?_
 ·rw [htx]; rfl
 ·rintro e w' ⟨rfl, tv', bv', kk, h1, h2⟩
  exact ⟨rfl, s, pv, tv', bv', ov, kk, h1, h2⟩
theorem sig_is : ∀ c : UInt8, sigilB (c.toNat : Int) = (((c == 36 || c == 64) || c == 37) || c == 38) := by
 have H : ∀ n : Fin 256, sigilB ((UInt8.ofNat n.val).toNat : Int) = (((UInt8.ofNat n.val == 36 || UInt8.ofNat n.val == 64) || UInt8.ofNat n.val == 37) || UInt8.ofNat n.val == 38) := by
  decide +kernel
 intro o
 have := H ⟨o.toNat, o.toNat_lt⟩
 simpa using this
theorem spec_is : ∀ c : UInt8, specB (c.toNat : Int) = ((c == 64 || c == 38) || (decide ((49 : Int) ≤ (c.toNat : Int)) && decide ((c.toNat : Int) ≤ 57))) := by
 have H : ∀ n : Fin 256, specB ((UInt8.ofNat n.val).toNat : Int) = ((UInt8.ofNat n.val == 64 || UInt8.ofNat n.val == 38) || (decide ((49 : Int) ≤ ((UInt8.ofNat n.val).toNat : Int)) && decide (((UInt8.ofNat n.val).toNat : Int) ≤ 57))) := by
  decide +kernel
 intro o
 have := H ⟨o.toNat, o.toNat_lt⟩
 simpa using this
theorem sig_ne {c : UInt8} (h : sigilB c.toNat = false) : c ≠ 36 ∧ c ≠ 64 ∧ c ≠ 37 ∧ c ≠ 38 := by
 rw [sig_is] at h
 simp at h
 exact ⟨h.1.1.1, h.1.1.2, h.1.2, h.2⟩
theorem sig_eq {c : UInt8} (h : sigilB c.toNat = true) : c = 36 ∨ c = 64 ∨ c = 37 ∨ c = 38 := by
 rw [sig_is] at h
 simp at h
 rcases h with ((h | h) | h) | h <;> simp [h]
theorem putP_from {W : World} {t : RTok} {b : Nat} (g : Gr w W) (hb : base ≤ w.heap.size) (h : PutP G P base tm rt tms ks t S b ops W w') : PutP G P base tm rt tms ks t S b ops w w' := by
 obtain ⟨s1, p1, t1, b1, o1, kk, h1, h2⟩ := h
 exact ⟨s1, p1, t1, b1, o1, kk, h1, (Fr.of_but (But.of_gr g) hb).trans h2⟩
theorem varS_2 (ref : Bool) (c d : UInt8) (t : List UInt8) : varS ref (c :: d :: t) = if sigilB c.toNat = true then (if 12 < wordN (d :: t) then (if ref = true ∨ d ≠ 95 then none else some 0) else if 0 < wordN (d :: t) then some (1 + wordN (d :: t)) else if c = 36 ∧ specB d.toNat = true then some 2 else some 0) else some 0 := rfl
theorem sgnB_2 (c d : UInt8) (t : List UInt8) : sgnB (c :: d :: t) = (sigilB c.toNat && (d == 36 || d == 123)) := rfl
theorem u8_nei {x y : UInt8} (h : x ≠ y) : ((x.toNat : Int) != (y.toNat : Int)) = true := by rw [u8_bne]; simpa using h
set_option maxRecDepth 100000 in
set_option maxHeartbeats 4000000 in
theorem variable_r (h : RSt G w P base S at_ true en rt tms ops ks s pv tv bv ov) (hat : at_ < S.length) (hks : ks.length ≤ 4000) (r : ByteArray) (hr : r.data.toList = byt (S.drop at_)) :
  Calls Tryz.prog 75 #[.pointer (some ⟨P, 0, none⟩), .string r] w (VarP G P base rt tms ks S at_ ops w (varS true (byt (S.drop at_))) (sgnB (byt (S.drop at_)))) := by
 have hrs : r.size = S.length - at_ := by rw [← sizeL, hr, byt_len, List.length_drop]
 have hSl := h.le
 by_cases h2 : r.size < 2
 ·obtain ⟨c, hc⟩ : ∃ c, byt (S.drop at_) = [c] := by
   have hl : (byt (S.drop at_)).length = 1 := by rw [byt_len, List.length_drop]; omega
   match hb : byt (S.drop at_), hl with
   | [c], _ => exact ⟨c, rfl⟩
  have b0 : (r.size : Int) < 2 := by omega
  rw [hc, show varS true [c] = some 0 from rfl, show sgnB [c] = false from rfl]
  clear h hr hrs hc h2
  go_enter Tryz.func75, Tryz.ntmps75
  go_wp2_with fail
  go_ret
  exact ⟨rfl, Gr.refl w⟩
 ·obtain ⟨c, d, t, hB⟩ : ∃ c d t, byt (S.drop at_) = c :: d :: t := by
   have hl : 2 ≤ (byt (S.drop at_)).length := by rw [byt_len, List.length_drop]; omega
   match hb : byt (S.drop at_), hl with
   | c :: d :: t, _ => exact ⟨c, d, t, rfl⟩
  have hrl : r.data.toList = c :: d :: t := by rw [hr, hB]
  have h0 : 0 < r.size := by omega
  have h1 : 1 < r.size := by omega
  have e0 : r[0] = c := by
   have hL : 0 < r.data.toList.length := by rw [sizeL]; exact h0
   rw [byteE r 0 h0 hL]; simp only [hrl]; rfl
  have e1 : r[1] = d := by
   have hL : 1 < r.data.toList.length := by rw [sizeL]; exact h1
   rw [byteE r 1 h1 hL]; simp only [hrl]; rfl
  have b0 : ¬ (r.size : Int) < 2 := by omega
  have b0b : decide ((r.size : Int) < 2) = false := decide_eq_false b0
  have b0c : decide (r.size < 2) = false := decide_eq_false h2
  have b1 : (0 : Int) < (r.size : Int) := by omega
  have b2 : (1 : Int) < (r.size : Int) := by omega
  have HE := Lh (fun k => show (r.extract 0 k).data.toList = (byt (S.drop at_)).take k by rw [takeB, hr])
  have HP := Lh (fun W (gW : Gr w W) (k n : Nat) (hk : k ≤ 9) (tx : ByteArray) (htx : tx.data.toList = (byt (S.drop at_)).take n) => (put_asIs (h.gr gW) hat hks k n hk htx).mono (fun e w' ⟨h1, h2⟩ => (⟨h1, putP_from gW h.bw h2⟩ : e = Ending.returned (.tuple #[]) ∧ PutP G P base true rt tms ks (asIs k n (S.drop at_)).1 S (at_ + n) ops w w')))
  have HSc := Lh h.sc
  cases hs : sigilB c.toNat with
  | false =>
   obtain ⟨n1, n2, n3, n4⟩ := sig_ne hs
   have t1 : ((c.toNat : Int) != 36) = true := u8_nei n1
   have t2 : ((c.toNat : Int) != 64) = true := u8_nei n2
   have t3 : ((c.toNat : Int) != 37) = true := u8_nei n3
   have t4 : ((c.toNat : Int) != 38) = true := u8_nei n4
   rw [hB, show varS true (c :: d :: t) = some 0 by rw [varS_2, if_neg (by rw [hs]; decide)], show sgnB (c :: d :: t) = false by rw [sgnB_2, hs]; rfl]
   clear h hr hrs hB h2 hs n1 n2 n3 n4 hrl HE HP HSc
   go_enter Tryz.func75, Tryz.ntmps75
   go_wp2_with fail
   go_ret
   exact ⟨rfl, Gr.refl w⟩
  | true =>
   have tS : (((c.toNat : Int) != 36) = false) ∨ (((c.toNat : Int) != 36) = true ∧ ((c.toNat : Int) != 64) = false) ∨ (((c.toNat : Int) != 36) = true ∧ ((c.toNat : Int) != 64) = true ∧ ((c.toNat : Int) != 37) = false) ∨ (((c.toNat : Int) != 36) = true ∧ ((c.toNat : Int) != 64) = true ∧ ((c.toNat : Int) != 37) = true ∧ ((c.toNat : Int) != 38) = false) := by
    rcases sig_eq hs with rfl | rfl | rfl | rfl
    ·exact .inl rfl
    ·exact .inr (.inl ⟨rfl, rfl⟩)
    ·exact .inr (.inr (.inl ⟨rfl, rfl, rfl⟩))
    ·exact .inr (.inr (.inr ⟨rfl, rfl, rfl, rfl⟩))
   have HW := Lh (fun w => word_r (r.extract 1 r.size) (by simp [ByteArray.size_extract]; omega) w)
   rw [dropE, hrl, show (c :: d :: t).drop 1 = d :: t from rfl] at HW
   have Hrs := Lh hrs
   have HSl := Lh hSl
   have Hat := Lh hat
   obtain ⟨c0, c1, c2, c3, c4, c5, c6, c7, c8, cf⟩ := HSc.out.cells
   have hv : varS true (c :: d :: t) = if 12 < wordN (d :: t) then none else if 0 < wordN (d :: t) then some (1 + wordN (d :: t)) else if c = 36 ∧ specB d.toNat = true then some 2 else some 0 := by
    rw [varS_2, if_pos hs]
    simp
   have hg : sgnB (c :: d :: t) = (d == 36 || d == 123) := by rw [sgnB_2, hs]; rfl
   have hW2 : wordN (d :: t) ≤ (d :: t).length := wordN_le _
   have hlen : (d :: t).length + 1 = r.size := by rw [← sizeL, hrl]; simp
   generalize wordN (d :: t) = W at *
   rw [hB, hg]
   have hd1 := u8_beq d 36
   have hd2 := u8_beq d 123
   rw [show ((36 : UInt8).toNat : Int) = 36 from rfl] at hd1
   rw [show ((123 : UInt8).toNat : Int) = 123 from rfl] at hd2
   obtain ⟨Y, hY⟩ : ∃ Y, Y = varS true (c :: d :: t) := ⟨_, rfl⟩
   rw [← hY]
   rw [← hY] at hv
   by_cases w12 : 12 < W
   ·rw [hv, if_pos w12]
    have w1 : (W : Int) > 12 := by omega
    clear h hr hrs hB h2 hs hrl HE HP HSc hv hg w12 hW2 hlen hSl hat hks hd1 hd2 hY
    go_enter Tryz.func75, Tryz.ntmps75
    go_upto_region 1 with fail
    go_cut [28] from 6 to 29 (fun c wx => c = .bool false ∧ w = wx)
    case first =>
     rcases tS with t1 | ⟨t1, t2⟩ | ⟨t1, t2, t3⟩ | ⟨t1, t2, t3, t4⟩
     all_goals
      go_wp2_with fail
      go_meet
      exact ⟨rfl, rfl⟩
    case rest =>
    obtain ⟨rfl, rfl⟩ := hcut
    clear tS
    go_wp2_with fail
    refine (HW.out _).mono ?_
    rintro e w2 ⟨rfl, rfl⟩
    go_wp2_with fail
    go_ret
    exact ⟨rfl, Gr.refl w⟩
   ·have w1 : ¬ (W : Int) > 12 := by omega
    have w1b : decide ((12 : Int) < (W : Int)) = false := decide_eq_false (by omega)
    have w1c : decide (12 < W) = false := decide_eq_false w12
    rw [if_neg w12] at hv
    by_cases hW : 0 < W
    ·rw [if_pos hW, show 1 + W = W + 1 by omega] at hv
     have w0 : ((W : Int) == 0) = false := by simp; omega
     have w2 : (W : Int) > 0 := by omega
     obtain ⟨m, hm⟩ : ∃ m, m = W + 1 := ⟨_, rfl⟩
     have hm1 : (1 : Int) + (W : Int) = (m : Int) := by omega
     have hm2 : (m : Int) ≤ (r.size : Int) := by omega
     obtain ⟨q, hq⟩ : ∃ q, q = at_ + m := ⟨_, rfl⟩
     obtain ⟨a1, ha1⟩ : ∃ a1, a1 = at_ + 1 := ⟨_, rfl⟩
     have hq1 : (a1 : Int) + (W : Int) = (q : Int) := by omega
     have hq2 : (at_ : Int) + 1 = (a1 : Int) := by omega
     have hq3 : (a1 : Int) ≤ 9223372036854775807 := by omega
     have hq5 : -9223372036854775808 ≤ (a1 : Int) := by omega
     have hq4 : (q : Int) ≤ 9223372036854775807 := by omega
     have hq6 : -9223372036854775808 ≤ (q : Int) := by omega
     have hm3 : (m : Int) ≤ 9223372036854775807 := by omega
     have hm4 : -9223372036854775808 ≤ (m : Int) := by omega
     have hwm : IntKind.i64.wrap (m : Int) = (m : Int) := by rw [IntKind.wrap_i64]; omega
     have hwa : IntKind.i64.wrap (a1 : Int) = (a1 : Int) := by rw [IntKind.wrap_i64]; omega
     have hwq : IntKind.i64.wrap (q : Int) = (q : Int) := by rw [IntKind.wrap_i64]; omega
     have HP2 := Lh (fun W' (gW : Gr w W') => HP.out W' gW 2 m (by decide) (r.extract 0 m) (HE.out m))
     rw [← hq] at HP2
     have HQ : Hid (∀ w', PutP G P base true rt tms ks (asIs 2 m (S.drop at_)).1 S q ops w w' → VarP G P base rt tms ks S at_ ops w (some (W + 1)) (d == 36 || d == 123) (.returned (.int .i64 1)) w') := Lh (fun w' hp => by
      refine ⟨rfl, ?_⟩
      rw [← hm, ← hq]; exact hp)
     rw [hv]
     clear h hr hrs hB h2 hs hrl HE HP hv hg w12 hW2 hlen hSl hat hks hd1 hd2 hY hW hm hq ha1
     go_enter Tryz.func75, Tryz.ntmps75
     go_upto_region 1 with fail
     go_cut [28] from 6 to 29 (fun c wx => c = .bool false ∧ w = wx)
     case first =>
      rcases tS with t1 | ⟨t1, t2⟩ | ⟨t1, t2, t3⟩ | ⟨t1, t2, t3, t4⟩
      all_goals
       go_wp2_with fail
       go_meet
       exact ⟨rfl, rfl⟩
     case rest =>
     obtain ⟨rfl, rfl⟩ := hcut
     clear tS
     go_wp2_with fail
     refine (HW.out _).mono ?_
     rintro e w2 ⟨rfl, rfl⟩
     go_wp2_with fail
     have HP3 := Lh (HP2.out w.drew ((Gr.refl w).drew))
     go_region_with (go_at_call 55; refine (HP3.out).mono ?_; rintro e9 w9 ⟨rfl, p9⟩; have P9 := Lh p9; clear p9)
     all_goals
      go_wp2_with fail
      go_ret
      exact HQ.out _ P9.out
    ·have hW0 : W = 0 := by omega
     subst hW0
     rw [if_neg (by decide)] at hv
     obtain ⟨a1, ha1⟩ : ∃ a1, a1 = at_ + 1 := ⟨_, rfl⟩
     have hq2 : (at_ : Int) + 1 = (a1 : Int) := by omega
     have hq3 : (a1 : Int) ≤ 9223372036854775807 := by omega
     have hq5 : -9223372036854775808 ≤ (a1 : Int) := by omega
     have hwa : IntKind.i64.wrap (a1 : Int) = (a1 : Int) := by rw [IntKind.wrap_i64]; omega
     have hc36 := u8_beq c 36
     rw [show ((36 : UInt8).toNat : Int) = 36 from rfl] at hc36
     have HP1 := Lh (fun W' (gW : Gr w W') => HP.out W' gW 3 1 (by decide) (r.extract 0 1) (HE.out 1))
     rw [← ha1] at HP1
     have h64 := u8_beq d 64
     have h38 := u8_beq d 38
     rw [show ((64 : UInt8).toNat : Int) = 64 from rfl] at h64
     rw [show ((38 : UInt8).toNat : Int) = 38 from rfl] at h38
     by_cases hsp : c = 36 ∧ specB d.toNat = true
     ·rw [if_pos hsp] at hv
      have tc : ((c.toNat : Int) == 36) = true := by rw [hc36, hsp.1]; rfl
      have hd := hsp.2
      rw [spec_is] at hd
      have td : ((d.toNat : Int) == 64) = true ∨ (((d.toNat : Int) == 64) = false ∧ ((d.toNat : Int) == 38) = true) ∨ (((d.toNat : Int) == 64) = false ∧ ((d.toNat : Int) == 38) = false ∧ (49 : Int) ≤ (d.toNat : Int) ∧ (d.toNat : Int) ≤ 57) := by
       rw [h64, h38]
       cases x1 : (d == 64)
       ·cases x2 : (d == 38)
        ·rw [x1, x2] at hd
         simp at hd
         exact .inr (.inr ⟨rfl, rfl, by omega, by omega⟩)
        ·exact .inr (.inl ⟨rfl, rfl⟩)
       ·exact .inl rfl
      obtain ⟨q, hq⟩ : ∃ q, q = at_ + 2 := ⟨_, rfl⟩
      have hq1 : (a1 : Int) + 1 = (q : Int) := by omega
      have hq4 : (q : Int) ≤ 9223372036854775807 := by omega
      have hq6 : -9223372036854775808 ≤ (q : Int) := by omega
      have hwq : IntKind.i64.wrap (q : Int) = (q : Int) := by rw [IntKind.wrap_i64]; omega
      have b3 : (2 : Int) ≤ (r.size : Int) := by omega
      have b4 : 2 ≤ r.size := by omega
      have hw2 : IntKind.i64.wrap 2 = 2 := by rw [IntKind.wrap_i64] <;> omega
      have b7 : ¬ r.size < 2 := by omega
      have b8 : ¬ (r.size : Int) < 2 := by omega
      have b9 : (decide (r.size < 2)) = false := decide_eq_false b7
      have HP2 := Lh (fun W' (gW : Gr w W') => HP.out W' gW 2 2 (by decide) (r.extract 0 2) (HE.out 2))
      rw [← hq] at HP2
      have HQ : Hid (∀ w', PutP G P base true rt tms ks (asIs 2 2 (S.drop at_)).1 S q ops w w' → VarP G P base rt tms ks S at_ ops w (some 2) (d == 36 || d == 123) (.returned (.int .i64 1)) w') := Lh (fun w' hp => by
       refine ⟨rfl, ?_⟩
       rw [← hq]; exact hp)
      have HP3 := Lh (HP2.out w.drew ((Gr.refl w).drew))
      rw [hv]
      clear h hr hrs hB h2 hs hrl HE HP hv hg w12 hW2 hlen hSl hat hks hd1 hd2 hY hW hq ha1 hsp hd hc36 h64 h38 HP1 HP2
      go_enter Tryz.func75, Tryz.ntmps75
      go_upto_region 1 with fail
      go_cut [28] from 6 to 29 (fun c wx => c = .bool false ∧ w = wx)
      case first =>
       rcases tS with t1 | ⟨t1, t2⟩ | ⟨t1, t2, t3⟩ | ⟨t1, t2, t3, t4⟩
       all_goals
        go_wp2_with fail
        go_meet
        exact ⟨rfl, rfl⟩
      case rest =>
      obtain ⟨rfl, rfl⟩ := hcut
      clear tS
      go_wp2_with fail
      refine (HW.out _).mono ?_
      rintro e w2 ⟨rfl, rfl⟩
      go_upto_region 6 with fail
      go_cut [60] from 34 to 61 (fun c wx => c = .bool true ∧ w = wx)
      case first =>
       rcases td with t5 | ⟨t5, t6⟩ | ⟨t5, t6, t7, t8⟩
       all_goals
        go_wp2_with fail
        go_meet
        exact ⟨rfl, rfl⟩
      case rest =>
      obtain ⟨rfl, rfl⟩ := hcut
      clear td
      go_upto_region 9 with fail
      go_region_with (go_at_call 55; refine (HP3.out).mono ?_; rintro e9 w9 ⟨rfl, p9⟩; have P9 := Lh p9; clear p9)
      all_goals
       go_wp2_with fail
       go_ret
       exact HQ.out _ P9.out
     ·rw [if_neg hsp] at hv
      have tz : ((c.toNat : Int) == 36) = false ∨ (((c.toNat : Int) == 36) = true ∧ ((d.toNat : Int) == 64) = false ∧ ((d.toNat : Int) == 38) = false ∧ (decide ((49 : Int) ≤ (d.toNat : Int)) = false ∨ ((49 : Int) ≤ (d.toNat : Int) ∧ decide ((d.toNat : Int) ≤ 57) = false))) := by
       rw [hc36]
       cases x0 : (c == 36)
       ·exact .inl rfl
       ·have hc : c = 36 := by simpa using x0
        have hd : specB d.toNat = false := by
         cases x3 : specB d.toNat with
         | false => rfl
         | true => exact absurd ⟨hc, x3⟩ hsp
        rw [spec_is] at hd
        simp only [Bool.or_eq_false_iff] at hd
        rw [h64, h38]
        refine .inr ⟨rfl, hd.1.1, hd.1.2, ?_⟩
        by_cases h49 : (49 : Int) ≤ (d.toNat : Int)
        ·refine .inr ⟨h49, ?_⟩
         have := hd.2
         rw [decide_eq_true h49, Bool.true_and] at this
         exact this
        ·exact .inl (decide_eq_false h49)
      have HP3 := Lh (HP1.out w.drew ((Gr.refl w).drew))
      have b5 : (1 : Int) ≤ (r.size : Int) := by omega
      have b6 : 1 ≤ r.size := by omega
      have b7 : ¬ r.size < 1 := by omega
      have b8 : ¬ (r.size : Int) < 1 := by omega
      have b9 : (decide (r.size < 1)) = false := decide_eq_false b7
      rw [hv]
      cases hb36 : (d == 36 || d == 123) with
      | true =>
       have tb : ((d.toNat : Int) == 36) = true ∨ (((d.toNat : Int) == 36) = false ∧ ((d.toNat : Int) == 123) = true) := by
        rw [hd1, hd2]
        cases x1 : (d == 36)
        ·rw [x1] at hb36; exact .inr ⟨rfl, by simpa using hb36⟩
        ·exact .inl rfl
       have HQ : Hid (∀ w', PutP G P base true rt tms ks (asIs 3 1 (S.drop at_)).1 S a1 ops w w' → VarP G P base rt tms ks S at_ ops w (some 0) true (.returned (.int .i64 1)) w') := Lh (fun w' hp => by
        refine ⟨rfl, ?_⟩
        rw [← ha1]; exact hp)
       clear h hr hrs hB h2 hs hrl HE HP hv hg w12 hW2 hlen hSl hat hks hd1 hd2 hY hW ha1 hsp hc36 h64 h38 HP1 hb36
       go_enter Tryz.func75, Tryz.ntmps75
       go_upto_region 1 with fail
       go_cut [28] from 6 to 29 (fun c wx => c = .bool false ∧ w = wx)
       case first =>
        rcases tS with t1 | ⟨t1, t2⟩ | ⟨t1, t2, t3⟩ | ⟨t1, t2, t3, t4⟩
        all_goals
         go_wp2_with fail
         go_meet
         exact ⟨rfl, rfl⟩
       case rest =>
       obtain ⟨rfl, rfl⟩ := hcut
       clear tS
       go_wp2_with fail
       refine (HW.out _).mono ?_
       rintro e w2 ⟨rfl, rfl⟩
       go_upto_region 6 with fail
       go_cut [60] from 34 to 61 (fun c wx => c = .bool false ∧ w = wx)
       case first =>
        rcases tz with t5 | ⟨t5, t6, t7, t8 | ⟨t8, t9⟩⟩
        all_goals
         go_wp2_with fail
         go_meet
         exact ⟨rfl, rfl⟩
       case rest =>
       obtain ⟨rfl, rfl⟩ := hcut
       clear tz
       go_upto_region 11 with fail
       go_cut [84] from 77 to 85 (fun c wx => c = .bool true ∧ w = wx)
       case first =>
        rcases tb with t9 | ⟨t9, t10⟩
        all_goals
         go_wp2_with fail
         go_meet
         exact ⟨rfl, rfl⟩
       case rest =>
       obtain ⟨rfl, rfl⟩ := hcut
       clear tb
       go_upto_region 12 with fail
       go_region_with (go_at_call 55; refine (HP3.out).mono ?_; rintro e9 w9 ⟨rfl, p9⟩; have P9 := Lh p9; clear p9)
       all_goals
        go_wp2_with fail
        go_ret
        exact HQ.out _ P9.out
      | false =>
       have tb1 : ((d.toNat : Int) == 36) = false := by rw [hd1]; cases x1 : (d == 36) <;> simp_all
       have tb2 : ((d.toNat : Int) == 123) = false := by rw [hd2]; cases x1 : (d == 123) <;> simp_all
       clear h hr hrs hB h2 hs hrl HE HP hv hg w12 hW2 hlen hSl hat hks hd1 hd2 hY hW ha1 hsp hc36 h64 h38 HP1 HP3 hb36
       go_enter Tryz.func75, Tryz.ntmps75
       go_upto_region 1 with fail
       go_cut [28] from 6 to 29 (fun c wx => c = .bool false ∧ w = wx)
       case first =>
        rcases tS with t1 | ⟨t1, t2⟩ | ⟨t1, t2, t3⟩ | ⟨t1, t2, t3, t4⟩
        all_goals
         go_wp2_with fail
         go_meet
         exact ⟨rfl, rfl⟩
       case rest =>
       obtain ⟨rfl, rfl⟩ := hcut
       clear tS
       go_wp2_with fail
       refine (HW.out _).mono ?_
       rintro e w2 ⟨rfl, rfl⟩
       go_upto_region 6 with fail
       go_cut [60] from 34 to 61 (fun c wx => c = .bool false ∧ w = wx)
       case first =>
        rcases tz with t5 | ⟨t5, t6, t7, t8 | ⟨t8, t9⟩⟩
        all_goals
         go_wp2_with fail
         go_meet
         exact ⟨rfl, rfl⟩
       case rest =>
       obtain ⟨rfl, rfl⟩ := hcut
       go_wp2_with fail
       go_ret
       exact ⟨rfl, Gr.refl w⟩
end Go.Proofs.YthmopindibdhnaaGreatDoor.G
namespace Go.Proofs.YthmopindibdhnaaGreatDoor.G
open Go.RowKit Go.Shelf Go.Maps
variable {w w' : World} {P base : Nat} {s : ByteArray} {pv : Value} {at_ : Nat} {tv bv : Value} {tm : Bool} {ov : Value} {en : Nat} {sg : Bool} {G : Prop} {S : Src} {rt : List RTok} {tms : List Bool} {ops : List Nat} {ks : List Tok}
theorem KeepI.other {base gb j : Nat} {u : Value} {gc : Array Value} (hg : w.heap[gb]? = some (.cells gc 42 (0, 0))) : KeepI base w (w.setCell ⟨gb, j, none⟩ u) := fun i cur _ hc => by
 have hne : gb ≠ i := fun e => by
  subst e
  rw [hg] at hc
  injection hc with hc
  injection hc with _ hc _
  exact absurd hc (by decide)
 simp [World.setCell, Array.getElem?_modify, hne, hc]
theorem RSt.other (h : RSt G w P base S at_ tm en rt tms ops ks s pv tv bv ov) {gb j : Nat} {u : Value} {gc : Array Value} (hg : w.heap[gb]? = some (.cells gc 42 (0, 0))) (hne : gb ≠ P) (ht : tv.ownBlock ≠ some gb) :
  RSt G (w.setCell ⟨gb, j, none⟩ u) P base S at_ tm en rt tms ops ks s pv tv bv ov :=
 ⟨h.eq, ⟨by simp [World.setCell, Array.getElem?_modify, hne, h.sc.blk]⟩, own_set h.t (fun e => ht e.symm) j u, own_set h.b (fun e => own_ty h.b hg (by decide) e.symm) j u, h.o.keep (KeepI.other hg), (KeepI.other hg).own h.p, h.lk, h.gs, h.le, h.tl, h.ap, h.pb, by simpa [World.setCell] using h.bw⟩
theorem RSt.setOv (h : RSt G w P base S at_ tm en rt tms ops ks s pv tv bv ov) {ops' : List Nat} {ov' : Value} (hO : OwnO w base ov' ops'.reverse) (hap : ∀ i, ov'.ownBlock = some i → pv.ownBlock ≠ some i) :
  RSt G (w.setCell ⟨P, 6, none⟩ ov') P base S at_ tm en rt tms ops' ks s pv tv bv ov' :=
 ⟨h.eq, h.sc.setOv ov', own_set h.t (fun e => own_apart h.t (.inl h.pb) e.symm) 6 _, own_set h.b (fun e => own_apart h.b (.inl h.pb) e.symm) 6 _, hO.keep ((KeepI.refl base w).set h.pb 6 ov'), ((KeepI.refl base w).set h.pb 6 ov').own h.p, h.lk, h.gs, h.le, h.tl, hap, h.pb, by simpa [World.setCell] using h.bw⟩
theorem RSt.grownO (h : RSt G w P base S at_ tm en rt tms ops ks s pv tv bv ov) {x : Nat} {ov' : Value} (h1 : OwnI w' base ov' (ops.reverse ++ [x])) (h2 : w.grownBy w' ov.ownBlock) (h3 : ov'.ownBlock = ov.ownBlock ∨ ov'.ownBlock = some w.heap.size) :
  RSt G (w'.setCell ⟨P, 6, none⟩ ov') P base S at_ tm en rt tms (x :: ops) ks s pv tv bv ov' ∧ Fr P base w (w'.setCell ⟨P, 6, none⟩ ov') := by
 have hoP : ov.ownBlock ≠ some P := fun e => by have := (h.o.ge e).1; have := h.pb; omega
 have kp : ∀ {b2 sz n : Nat} {e : TypeId} {v : Value} {xs : List Value}, w.ownsRow b2 e sz v n xs → (e ≠ 3 ∨ ∀ i, ov.ownBlock = some i → v.ownBlock ≠ some i) → w'.ownsRow b2 e sz v n xs := by
  intro b2 sz n e v xs ho hor
  refine ho.kept h2 ?_
  cases hv : v.ownBlock with
  | none => exact .inl rfl
  | some i =>
   refine .inr fun e2 => ?_
   rcases hor with hor | hor
   ·obtain ⟨_, cur, hc⟩ := h.o.ge e2.symm
    exact own_ty ho hc hor hv
   ·exact hor i e2.symm hv
 have R1 : RSt G w' P base S at_ tm en rt tms ops ks s pv tv bv ov → True := fun _ => trivial
 have sc1 := h.sc.grown h2 hoP
 have t1 := kp h.t (.inl (by decide))
 have b1 := kp h.b (.inl (by decide))
 have p1 := kp h.p (.inr h.ap)
 have bw1 : base ≤ w'.heap.size := Nat.le_trans h.bw h2.size
 have tP : some P ≠ tv.ownBlock := fun e => own_apart h.t (.inl h.pb) e.symm
 have bP : some P ≠ bv.ownBlock := fun e => own_apart h.b (.inl h.pb) e.symm
 have pP : some P ≠ pv.ownBlock := fun e => own_apart h.p (.inl h.pb) e.symm
 have hap : ∀ i, ov'.ownBlock = some i → pv.ownBlock ≠ some i := by
  intro i hi hp
  rcases h3 with h3 | h3
  ·exact h.ap i (by rw [← h3]; exact hi) hp
  ·rw [h3] at hi
   injection hi with hi
   have := (own_ge h.p hp).2.1
   omega
 have hoI : OwnO w' base ov' (x :: ops).reverse := .inl (by rw [List.reverse_cons]; exact h1)
 refine ⟨⟨h.eq, sc1.setOv ov', own_set t1 tP 6 _, own_set b1 bP 6 _, hoI.keep ((KeepI.refl base w').set h.pb 6 ov'), own_set p1 pP 6 _, h.lk, h.gs, h.le, h.tl, hap, h.pb, by simpa [World.setCell] using bw1⟩, ?_⟩
 exact Fr.but (Fr.grow (Fr.refl P base w) h2 h.bw (fun i e => (h.o.ge e).1)) (But.set (P := P) 6 ov') bw1
end Go.Proofs.YthmopindibdhnaaGreatDoor.G
