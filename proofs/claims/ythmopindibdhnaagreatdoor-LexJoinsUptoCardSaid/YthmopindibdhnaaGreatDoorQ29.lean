import Derived.Test.YthmopindibdhnaaGreatDoorQ00
import Derived.Test.YthmopindibdhnaaGreatDoorQ28
import Derived.StillTailTactics
import Derived.Test.YthmopindibdhnaaGreatDoorQ08
namespace Go.Proofs.YthmopindibdhnaaGreatDoor.G
open Go.RowKit Go.Shelf Go.Maps
variable {w w' : World} {P base : Nat} {s : ByteArray} {pv : Value} {at_ : Nat} {tv bv : Value} {tm : Bool} {ov : Value} {en : Nat} {sg : Bool} {G : Prop} {S : Src} {rt : List RTok} {tms : List Bool} {ops : List Nat} {ks : List Tok}
theorem u8_eqi {x y : UInt8} (h : x = y) : ((x.toNat : Int) == (y.toNat : Int)) = true := by rw [h]; simp
theorem var_ret {X : Option Nat} {b : Bool} {a : Nat} {e : Ending} (h : VarP G P base rt tms ks S a ops w X b e w') : ∃ v, e = .returned (.int .i64 v) := by
 match X, b, h with
 | none, _, h => exact ⟨_, h.1⟩
 | some 0, true, h => exact ⟨_, h.1⟩
 | some 0, false, h => exact ⟨_, h.1⟩
 | some (n + 1), _, h => exact ⟨_, h.1⟩
set_option maxRecDepth 100000 in
set_option maxHeartbeats 4000000 in
theorem special_var (h : RSt G w P base S at_ true en rt tms ops ks s pv tv bv ov) (hat : at_ < S.length) (hks : ks.length ≤ 4000) (hh : hereS (byt (S.drop at_)) = none) (hq : quoteL (byt (S.drop at_)) = none) :
  Calls Tryz.prog 52 #[.pointer (some ⟨P, 0, none⟩)] w (SpcP G P base rt tms ks S.length at_ ops w (specS (S.drop at_))) := by
 have hsz := h.size
 have hSl := h.le
 obtain ⟨r, hr⟩ : ∃ r, r = s.extract at_ s.size := ⟨_, rfl⟩
 have hrl : r.data.toList = byt (S.drop at_) := by rw [hr, dropE, h.eq, byt_drop]
 have hrs : r.size = S.length - at_ := by rw [← sizeL, hrl, byt_len, List.length_drop]
 have HR1 := Lh (rest_r h.sc (by omega))
 rw [← hr] at HR1
 have HHd := Lh (fun w => heredoc_r r (by omega) w)
 rw [hrl, hh, show hereV none = .tuple #[.int .i64 0, .string ⟨#[]⟩, .bool false] from rfl] at HHd
 have HW := Lh (fun w => word_r r (by omega) w)
 rw [hrl] at HW
 have Hsc := Lh h.sc
 have HKi := Lh (fun w => kindOf_r (r.extract 0 (wordN (byt (S.drop at_)))) w)
 rw [takeB, hrl] at HKi
 have HV := Lh (fun W (gW : Gr w W) => variable_r (h.gr gW) hat hks r hrl)
 have HF := Lh (fun W (gW : Gr w W) e w' hv => var_spc (e := e) (w' := w') (G := G) (P := P) (base := base) (rt := rt) (tms := tms) (ks := ks) (ops := ops) hat hh hq gW h.bw hv)
 obtain ⟨X, hX⟩ : ∃ X, X = SpcP G P base rt tms ks S.length at_ ops w (specS (S.drop at_)) := ⟨_, rfl⟩
 rw [← hX] at HF ⊢
 obtain ⟨a, t, hat2⟩ : ∃ a t, byt (S.drop at_) = a :: t := by
  have hl : 0 < (byt (S.drop at_)).length := by rw [byt_len, List.length_drop]; omega
  match hb : byt (S.drop at_), hl with
  | a :: t, _ => exact ⟨a, t, rfl⟩
 have hrl2 : r.data.toList = a :: t := by rw [hrl, hat2]
 have h0 : 0 < r.size := by omega
 have e0 : r[0] = a := by
  have hL : 0 < r.data.toList.length := by rw [sizeL]; exact h0
  rw [byteE r 0 h0 hL]; simp only [hrl2]; rfl
 have hlen : (a :: t).length = r.size := by rw [← sizeL, hrl2]
 have b0 : (0 : Int) < (r.size : Int) := by omega
 rw [hat2] at HW HKi hq
 have hWle := wordN_le (a :: t)
 have hby : ∀ n c, (a :: t)[n]? = some c → ∃ hn : n < r.size, r[n] = c := fun n c hc => by
  obtain ⟨h1, h2⟩ := List.getElem?_eq_some_iff.1 hc
  have hn : n < r.size := by omega
  have hL : n < r.data.toList.length := by rw [sizeL]; exact hn
  refine ⟨hn, ?_⟩
  rw [byteE r n hn hL]; simp only [hrl2]; exact h2
 obtain ⟨⟨n39, n34, n47⟩, hw⟩ := quote_no_way hq
 have t1 : ((a.toNat : Int) == 39) = false := u8_neq (y := 39) n39
 have t2 : ((a.toNat : Int) == 34) = false := u8_neq (y := 34) n34
 have t3 : ((a.toNat : Int) == 47) = false := u8_neq (y := 47) n47
 obtain ⟨W, hWd⟩ : ∃ W, W = wordN (a :: t) := ⟨_, rfl⟩
 rw [← hWd] at HW hw hWle HKi
 clear hWd hr hrl hh hq hX hat2 hrl2 hsz h n39 n34 n47
 rcases hw with hw | ⟨hw, hw2⟩ | ⟨c, hw, hc, hd | ⟨hd, hk⟩⟩
 ·have w0 : ¬ (W : Int) > 0 := by omega
  have w1 : decide ((0 : Int) < (W : Int)) = false := decide_eq_false w0
  have w2 : decide (0 < W) = false := decide_eq_false (by omega)
  clear hw hWle hby hlen HKi
  go_enter Tryz.func52, Tryz.ntmps52
  go_wp2_with fail
  refine (HR1.out).mono ?_
  rintro e1 w1 ⟨rfl, g1⟩
  have G1 := Lh g1
  clear g1
  go_wp2_with fail
  refine (HHd.out _).mono ?_
  rintro e2 w2 ⟨rfl, g2⟩
  have G2 := Lh (G1.out.trans g2)
  clear g2
  obtain ⟨c0, c1, c2, c3, c4, c5, c6, c7, c8, cf⟩ := (Hsc.out.gr G2.out).cells
  go_wp2_with fail
  go_quiet (fail)
  have G3 : Hid (Gr w (w2.drewN nq)) := Lh (G2.out.drewN _)
  generalize w2.drewN nq = W3 at *
  clear c0 c1 c2 c3 c4 c5 c6 c7 c8 cf
  obtain ⟨c0, c1, c2, c3, c4, c5, c6, c7, c8, cf⟩ := (Hsc.out.gr G3.out).cells
  go_wp2_with fail
  refine (HW.out _).mono ?_
  rintro e4 w4 ⟨rfl, rfl⟩
  go_wp2_with fail
  refine (HV.out _ G3.out).mono ?_
  intro e5 w5 hv
  have HF5 := Lh (HF.out _ G3.out e5 w5 hv)
  obtain ⟨v, rfl⟩ := var_ret hv
  clear hv
  go_wp2_with fail
  exact HF5.out
 ·have w0 : (W : Int) > 0 := by omega
  have w1 : ¬ (W : Int) < (r.size : Int) := by omega
  have w2 : decide ((W : Int) < (r.size : Int)) = false := decide_eq_false w1
  have w3 : decide (W < r.size) = false := decide_eq_false (by omega)
  clear hw hw2 hWle hby hlen HKi
  go_enter Tryz.func52, Tryz.ntmps52
  go_wp2_with fail
  refine (HR1.out).mono ?_
  rintro e1 w1 ⟨rfl, g1⟩
  have G1 := Lh g1
  clear g1
  go_wp2_with fail
  refine (HHd.out _).mono ?_
  rintro e2 w2 ⟨rfl, g2⟩
  have G2 := Lh (G1.out.trans g2)
  clear g2
  obtain ⟨c0, c1, c2, c3, c4, c5, c6, c7, c8, cf⟩ := (Hsc.out.gr G2.out).cells
  go_wp2_with fail
  go_quiet (fail)
  have G3 : Hid (Gr w (w2.drewN nq)) := Lh (G2.out.drewN _)
  generalize w2.drewN nq = W3 at *
  clear c0 c1 c2 c3 c4 c5 c6 c7 c8 cf
  obtain ⟨c0, c1, c2, c3, c4, c5, c6, c7, c8, cf⟩ := (Hsc.out.gr G3.out).cells
  go_wp2_with fail
  refine (HW.out _).mono ?_
  rintro e4 w4 ⟨rfl, rfl⟩
  go_wp2_with fail
  refine (HV.out _ G3.out).mono ?_
  intro e5 w5 hv
  have HF5 := Lh (HF.out _ G3.out e5 w5 hv)
  obtain ⟨v, rfl⟩ := var_ret hv
  clear hv
  go_wp2_with fail
  exact HF5.out
 ·obtain ⟨hn, hr1⟩ := hby W c hc
  have w0 : (W : Int) > 0 := by omega
  have w1 : (W : Int) < (r.size : Int) := by omega
  have HPt := Lh (fun w => partner_r (c.toNat : Int) w)
  rw [(partR_ok c).2 hd] at HPt
  clear hw hWle hby hlen HKi hc hd
  go_enter Tryz.func52, Tryz.ntmps52
  go_wp2_with fail
  refine (HR1.out).mono ?_
  rintro e1 w1 ⟨rfl, g1⟩
  have G1 := Lh g1
  clear g1
  go_wp2_with fail
  refine (HHd.out _).mono ?_
  rintro e2 w2 ⟨rfl, g2⟩
  have G2 := Lh (G1.out.trans g2)
  clear g2
  obtain ⟨c0, c1, c2, c3, c4, c5, c6, c7, c8, cf⟩ := (Hsc.out.gr G2.out).cells
  go_wp2_with fail
  go_quiet (fail)
  have G3 : Hid (Gr w (w2.drewN nq)) := Lh (G2.out.drewN _)
  generalize w2.drewN nq = W3 at *
  clear c0 c1 c2 c3 c4 c5 c6 c7 c8 cf
  obtain ⟨c0, c1, c2, c3, c4, c5, c6, c7, c8, cf⟩ := (Hsc.out.gr G3.out).cells
  go_wp2_with fail
  refine (HW.out _).mono ?_
  rintro e4 w4 ⟨rfl, rfl⟩
  go_wp2_with (go_at_call 72; refine (HPt.out _).mono ?_; rintro e6 w6 ⟨rfl, rfl⟩)
  refine (HV.out _ G3.out).mono ?_
  intro e5 w5 hv
  have HF5 := Lh (HF.out _ G3.out e5 w5 hv)
  obtain ⟨v, rfl⟩ := var_ret hv
  clear hv
  go_wp2_with fail
  exact HF5.out
 ·obtain ⟨hn, hr1⟩ := hby W c hc
  have w0 : (W : Int) > 0 := by omega
  have w1 : (W : Int) < (r.size : Int) := by omega
  have w2 : (W : Int) ≤ (r.size : Int) := by omega
  have HPt := Lh (fun w => partner_r (c.toNat : Int) w)
  obtain ⟨p, hp⟩ : ∃ p, p = partR (c.toNat : Int) := ⟨_, rfl⟩
  have p0 : (p != 0) = true := by simpa [hp] using ((partR_ok c).1 hd).2.2
  rw [← hp] at HPt
  rw [hk] at HKi
  obtain ⟨q, hqq⟩ : ∃ q, q = at_ + W := ⟨_, rfl⟩
  have q1 : (at_ : Int) + (W : Int) = (q : Int) := by omega
  have q2 : (q : Int) ≤ 9223372036854775807 := by omega
  have q3 : -9223372036854775808 ≤ (q : Int) := by omega
  have q4 : IntKind.i64.wrap (q : Int) = (q : Int) := by rw [IntKind.wrap_i64]; omega
  clear hw hWle hby hlen hc hd hk hp hqq
  go_enter Tryz.func52, Tryz.ntmps52
  go_wp2_with fail
  refine (HR1.out).mono ?_
  rintro e1 w1 ⟨rfl, g1⟩
  have G1 := Lh g1
  clear g1
  go_wp2_with fail
  refine (HHd.out _).mono ?_
  rintro e2 w2 ⟨rfl, g2⟩
  have G2 := Lh (G1.out.trans g2)
  clear g2
  obtain ⟨c0, c1, c2, c3, c4, c5, c6, c7, c8, cf⟩ := (Hsc.out.gr G2.out).cells
  go_wp2_with fail
  go_quiet (fail)
  have G3 : Hid (Gr w (w2.drewN nq)) := Lh (G2.out.drewN _)
  generalize w2.drewN nq = W3 at *
  clear c0 c1 c2 c3 c4 c5 c6 c7 c8 cf
  obtain ⟨c0, c1, c2, c3, c4, c5, c6, c7, c8, cf⟩ := (Hsc.out.gr G3.out).cells
  go_wp2_with fail
  refine (HW.out _).mono ?_
  rintro e4 w4 ⟨rfl, rfl⟩
  go_wp2_with (go_at_call 72; refine (HPt.out _).mono ?_; rintro e6 w6 ⟨rfl, rfl⟩)
  go_quiet ((go_at_call 73; exact quiet_at (HKi.out _)))
  have G4 : Hid (Gr w (W3.drewN nq)) := Lh (G3.out.drewN _)
  clear G3
  have G3 := G4
  clear G4
  go_wp2_with fail
  refine (HV.out _ G3.out).mono ?_
  intro e5 w5 hv
  have HF5 := Lh (HF.out _ G3.out e5 w5 hv)
  obtain ⟨v, rfl⟩ := var_ret hv
  clear hv
  go_wp2_with fail
  exact HF5.out
set_option maxRecDepth 100000 in
set_option maxHeartbeats 4000000 in
theorem special_quote (h : RSt G w P base S at_ true en rt tms ops ks s pv tv bv ov) (hat : at_ < S.length) (hks : ks.length ≤ 4000) (hh : hereS (byt (S.drop at_)) = none) {k : Int} {m : Nat} (hq : quoteL (byt (S.drop at_)) = some (k, m)) :
  Calls Tryz.prog 52 #[.pointer (some ⟨P, 0, none⟩)] w (SpcP G P base rt tms ks S.length at_ ops w (specS (S.drop at_))) := by
 have hqs := quoteL_some hq
 obtain ⟨⟨o, ho1, ho2⟩, hk6⟩ := hqs
 have hdm : at_ + m < S.length := by
  obtain ⟨h1, _⟩ := List.getElem?_eq_some_iff.1 ho1
  rw [byt_len, List.length_drop] at h1
  omega
 have hod : delimB S[at_ + m].2.toNat = true := by
  obtain ⟨h1, h2⟩ := List.getElem?_eq_some_iff.1 ho1
  have : S[at_ + m].2 = o := by
   rw [← h2]
   unfold byt
   simp [List.getElem_drop]
  rw [this]; exact ho2
 obtain ⟨q, hqq⟩ : ∃ q, q = at_ + m := ⟨_, rfl⟩
 have HQ := Lh (fun W (gW : Gr w W) => (quote_any (h.gr gW) hat hks (at_ + m) hdm hod k hk6).mono (fun e w' hv => quo_spc (e := e) (w' := w') (G := G) (P := P) (base := base) (rt := rt) (tms := tms) (ks := ks) (ops := ops) hat hh hq gW h.bw hv))
 obtain ⟨X, hX⟩ : ∃ X, X = SpcP G P base rt tms ks S.length at_ ops w (specS (S.drop at_)) := ⟨_, rfl⟩
 rw [← hX] at HQ ⊢
 rw [← hqq] at HQ
 have hsz := h.size
 have hSl := h.le
 obtain ⟨r, hr⟩ : ∃ r, r = s.extract at_ s.size := ⟨_, rfl⟩
 have hrl : r.data.toList = byt (S.drop at_) := by rw [hr, dropE, h.eq, byt_drop]
 have hrs : r.size = S.length - at_ := by rw [← sizeL, hrl, byt_len, List.length_drop]
 have HR1 := Lh (rest_r h.sc (by omega))
 rw [← hr] at HR1
 have HHd := Lh (fun w => heredoc_r r (by omega) w)
 rw [hrl, hh, show hereV none = .tuple #[.int .i64 0, .string ⟨#[]⟩, .bool false] from rfl] at HHd
 have HW := Lh (fun w => word_r r (by omega) w)
 rw [hrl] at HW
 have Hsc := Lh h.sc
 have HKi := Lh (fun w => kindOf_r (r.extract 0 (wordN (byt (S.drop at_)))) w)
 rw [takeB, hrl] at HKi
 obtain ⟨a, t, hat2⟩ : ∃ a t, byt (S.drop at_) = a :: t := by
  have hl : 0 < (byt (S.drop at_)).length := by rw [byt_len, List.length_drop]; omega
  match hb : byt (S.drop at_), hl with
  | a :: t, _ => exact ⟨a, t, rfl⟩
 have hrl2 : r.data.toList = a :: t := by rw [hrl, hat2]
 have h0 : 0 < r.size := by omega
 have e0 : r[0] = a := by
  have hL : 0 < r.data.toList.length := by rw [sizeL]; exact h0
  rw [byteE r 0 h0 hL]; simp only [hrl2]; rfl
 have hlen : (a :: t).length = r.size := by rw [← sizeL, hrl2]
 have b0 : (0 : Int) < (r.size : Int) := by omega
 rw [hat2] at HW HKi hq
 have hWle := wordN_le (a :: t)
 have hby : ∀ n c, (a :: t)[n]? = some c → ∃ hn : n < r.size, r[n] = c := fun n c hc => by
  obtain ⟨h1, h2⟩ := List.getElem?_eq_some_iff.1 hc
  have hn : n < r.size := by omega
  have hL : n < r.data.toList.length := by rw [sizeL]; exact hn
  refine ⟨hn, ?_⟩
  rw [byteE r n hn hL]; simp only [hrl2]; exact h2
 obtain ⟨W, hWd⟩ : ∃ W, W = wordN (a :: t) := ⟨_, rfl⟩
 have hway := quote_way hq
 rw [← hWd] at HW hWle HKi hway
 have q2 : (q : Int) ≤ 9223372036854775807 := by omega
 have q3 : -9223372036854775808 ≤ (q : Int) := by omega
 have q4 : IntKind.i64.wrap (q : Int) = (q : Int) := by rw [IntKind.wrap_i64]; omega
 have q1 : (at_ : Int) + (m : Int) = (q : Int) := by omega
 clear hWd hr hrl hh hq hX hat2 hrl2 hsz h hdm hod ho1 ho2
 rcases hway with ⟨ha, hk, hm⟩ | ⟨ha, hk, hm⟩ | ⟨ha, hk, hm⟩ | ⟨⟨n39, n34, n47⟩, hw, hm, c, hc, hd, hk, hk0⟩
 ·subst hk
  have hq0 : q = at_ := by omega
  subst hq0
  have t1 : ((a.toNat : Int) == 39) = true := u8_eqi (y := 39) ha
  clear hm ha hWle hby hlen HKi hk6 q1 hqq
  go_enter Tryz.func52, Tryz.ntmps52
  go_wp2_with fail
  refine (HR1.out).mono ?_
  rintro e1 w1 ⟨rfl, g1⟩
  have G1 := Lh g1
  clear g1
  go_wp2_with fail
  refine (HHd.out _).mono ?_
  rintro e2 w2 ⟨rfl, g2⟩
  have G2 := Lh (G1.out.trans g2)
  clear g2
  obtain ⟨c0, c1, c2, c3, c4, c5, c6, c7, c8, cf⟩ := (Hsc.out.gr G2.out).cells
  go_wp2_with fail
  go_quiet (fail)
  have G3 : Hid (Gr w (w2.drewN nq)) := Lh (G2.out.drewN _)
  generalize w2.drewN nq = W3 at *
  clear c0 c1 c2 c3 c4 c5 c6 c7 c8 cf
  obtain ⟨c0, c1, c2, c3, c4, c5, c6, c7, c8, cf⟩ := (Hsc.out.gr G3.out).cells
  go_wp2_with fail
  refine (HW.out _).mono ?_
  rintro e4 w4 ⟨rfl, rfl⟩
  go_wp2_with fail
  refine (HQ.out _ G3.out).mono ?_
  rintro e5 w5 ⟨b, rfl, hx⟩
  have HX5 := Lh hx
  clear hx
  cases b
  all_goals
   go_wp2_with fail
   exact HX5.out
 ·subst hk
  have hq0 : q = at_ := by omega
  subst hq0
  have t1 : ((a.toNat : Int) == 39) = false := u8_neq (y := 39) (by rw [ha]; decide)
  have t2 : ((a.toNat : Int) == 34) = true := u8_eqi (y := 34) ha
  clear hm ha hWle hby hlen HKi hk6 q1 hqq
  go_enter Tryz.func52, Tryz.ntmps52
  go_wp2_with fail
  refine (HR1.out).mono ?_
  rintro e1 w1 ⟨rfl, g1⟩
  have G1 := Lh g1
  clear g1
  go_wp2_with fail
  refine (HHd.out _).mono ?_
  rintro e2 w2 ⟨rfl, g2⟩
  have G2 := Lh (G1.out.trans g2)
  clear g2
  obtain ⟨c0, c1, c2, c3, c4, c5, c6, c7, c8, cf⟩ := (Hsc.out.gr G2.out).cells
  go_wp2_with fail
  go_quiet (fail)
  have G3 : Hid (Gr w (w2.drewN nq)) := Lh (G2.out.drewN _)
  generalize w2.drewN nq = W3 at *
  clear c0 c1 c2 c3 c4 c5 c6 c7 c8 cf
  obtain ⟨c0, c1, c2, c3, c4, c5, c6, c7, c8, cf⟩ := (Hsc.out.gr G3.out).cells
  go_wp2_with fail
  refine (HW.out _).mono ?_
  rintro e4 w4 ⟨rfl, rfl⟩
  go_wp2_with fail
  refine (HQ.out _ G3.out).mono ?_
  rintro e5 w5 ⟨b, rfl, hx⟩
  have HX5 := Lh hx
  clear hx
  cases b
  all_goals
   go_wp2_with fail
   exact HX5.out
 ·subst hk
  have hq0 : q = at_ := by omega
  subst hq0
  have t1 : ((a.toNat : Int) == 39) = false := u8_neq (y := 39) (by rw [ha]; decide)
  have t2 : ((a.toNat : Int) == 34) = false := u8_neq (y := 34) (by rw [ha]; decide)
  have t3 : ((a.toNat : Int) == 47) = true := u8_eqi (y := 47) ha
  clear hm ha hWle hby hlen HKi hk6 q1 hqq
  go_enter Tryz.func52, Tryz.ntmps52
  go_wp2_with fail
  refine (HR1.out).mono ?_
  rintro e1 w1 ⟨rfl, g1⟩
  have G1 := Lh g1
  clear g1
  go_wp2_with fail
  refine (HHd.out _).mono ?_
  rintro e2 w2 ⟨rfl, g2⟩
  have G2 := Lh (G1.out.trans g2)
  clear g2
  obtain ⟨c0, c1, c2, c3, c4, c5, c6, c7, c8, cf⟩ := (Hsc.out.gr G2.out).cells
  go_wp2_with fail
  go_quiet (fail)
  have G3 : Hid (Gr w (w2.drewN nq)) := Lh (G2.out.drewN _)
  generalize w2.drewN nq = W3 at *
  clear c0 c1 c2 c3 c4 c5 c6 c7 c8 cf
  obtain ⟨c0, c1, c2, c3, c4, c5, c6, c7, c8, cf⟩ := (Hsc.out.gr G3.out).cells
  go_wp2_with fail
  refine (HW.out _).mono ?_
  rintro e4 w4 ⟨rfl, rfl⟩
  go_wp2_with fail
  refine (HQ.out _ G3.out).mono ?_
  rintro e5 w5 ⟨b, rfl, hx⟩
  have HX5 := Lh hx
  clear hx
  cases b
  all_goals
   go_wp2_with fail
   exact HX5.out
 ·obtain ⟨hn, hr1⟩ := hby W c hc
  have t1 : ((a.toNat : Int) == 39) = false := u8_neq (y := 39) n39
  have t2 : ((a.toNat : Int) == 34) = false := u8_neq (y := 34) n34
  have t3 : ((a.toNat : Int) == 47) = false := u8_neq (y := 47) n47
  have w0 : (W : Int) > 0 := by omega
  have w1 : (W : Int) < (r.size : Int) := by omega
  have w2 : (W : Int) ≤ (r.size : Int) := by omega
  have HPt := Lh (fun w => partner_r (c.toNat : Int) w)
  obtain ⟨p, hp⟩ : ∃ p, p = partR (c.toNat : Int) := ⟨_, rfl⟩
  have p0 : (p != 0) = true := by simpa [hp] using ((partR_ok c).1 hd).2.2
  rw [← hp] at HPt
  rw [hk] at HKi
  have k0 : k >= 0 := hk0
  rw [hm] at q1
  clear hm hWle hby hlen hk6 hqq hw hc hd hp n39 n34 n47 hk hk0
  go_enter Tryz.func52, Tryz.ntmps52
  go_wp2_with fail
  refine (HR1.out).mono ?_
  rintro e1 w1 ⟨rfl, g1⟩
  have G1 := Lh g1
  clear g1
  go_wp2_with fail
  refine (HHd.out _).mono ?_
  rintro e2 w2 ⟨rfl, g2⟩
  have G2 := Lh (G1.out.trans g2)
  clear g2
  obtain ⟨c0, c1, c2, c3, c4, c5, c6, c7, c8, cf⟩ := (Hsc.out.gr G2.out).cells
  go_wp2_with fail
  go_quiet (fail)
  have G3 : Hid (Gr w (w2.drewN nq)) := Lh (G2.out.drewN _)
  generalize w2.drewN nq = W3 at *
  clear c0 c1 c2 c3 c4 c5 c6 c7 c8 cf
  obtain ⟨c0, c1, c2, c3, c4, c5, c6, c7, c8, cf⟩ := (Hsc.out.gr G3.out).cells
  go_wp2_with fail
  refine (HW.out _).mono ?_
  rintro e4 w4 ⟨rfl, rfl⟩
  go_wp2_with (go_at_call 72; refine (HPt.out _).mono ?_; rintro e6 w6 ⟨rfl, rfl⟩)
  go_quiet ((go_at_call 73; exact quiet_at (HKi.out _)))
  have G4 : Hid (Gr w (W3.drewN nq)) := Lh (G3.out.drewN _)
  clear G3
  have G3 := G4
  clear G4
  go_wp2_with fail
  refine (HQ.out _ G3.out).mono ?_
  rintro e5 w5 ⟨b, rfl, hx⟩
  have HX5 := Lh hx
  clear hx
  cases b
  all_goals
   go_wp2_with fail
   exact HX5.out
theorem gr_new {W : World} {b j : Nat} {v : Value} (g : Gr w W) (hb : w.heap.size ≤ b) : Gr w (W.setCell ⟨b, j, none⟩ v) := by
 refine ⟨g.os, g.tape, g.output, by simpa [World.setCell] using g.size, fun k hk => ?_⟩
 have : b ≠ k := by omega
 simp [World.setCell, Array.getElem?_modify, this, g.block k hk]
theorem put_here {W : World} (h : RSt G W P base S at_ true en rt tms ops ks s pv tv bv ov) (hat : at_ < S.length) (hks : ks.length ≤ 4000) {n0 : Nat} (t : RTok) {k : Int} {tx : ByteArray} (hL : Lk G ⟨k, S[at_].1, tx, ⟨#[]⟩, ⟨#[]⟩, 0⟩ t) (hk : 4 ≤ k ∧ k ≤ 5) (_hk2 : t.kind ≠ 3 ∧ t.kind ≠ 0) :
  Calls Tryz.prog 55 #[.pointer (some ⟨P, 0, none⟩), .agg #[.int .i64 k, .int .i64 0, .string tx, .string ⟨#[]⟩, .string ⟨#[]⟩, .int .i64 0], .int .i64 (n0 : Int)] W fun e w' => e = .returned (.tuple #[]) ∧ PutP G P base true rt tms ks t S n0 ops W w' := by
 refine (put_g h hat hks (p0 := 0) n0 t hL (by omega) ?_).mono ?_
 ·have e1 : (t.kind : Int) = k := hL.kind.symm
  rcases (show k = 4 ∨ k = 5 by omega) with rfl | rfl <;> rw [e1] <;> rfl
 ·rintro e w' ⟨rfl, tv', bv', kk, h1, h2⟩
  exact ⟨rfl, s, pv, tv', bv', ov, kk, h1, h2⟩
set_option maxRecDepth 100000 in
set_option maxHeartbeats 4000000 in
theorem special_here (h : RSt G w P base S at_ true en rt tms ops ks s pv tv bv ov) (hat : at_ < S.length) (hks : ks.length ≤ 4000) {n : Nat} {name : List UInt8} {more : Bool} (hh : hereS (byt (S.drop at_)) = some (n, name, more)) :
  Calls Tryz.prog 52 #[.pointer (some ⟨P, 0, none⟩)] w (SpcP G P base rt tms ks S.length at_ ops w (specS (S.drop at_))) := by
 have hsz := h.size
 have hSl := h.le
 obtain ⟨r, hr⟩ : ∃ r, r = s.extract at_ s.size := ⟨_, rfl⟩
 have hrl : r.data.toList = byt (S.drop at_) := by rw [hr, dropE, h.eq, byt_drop]
 have hrs : r.size = S.length - at_ := by rw [← sizeL, hrl, byt_len, List.length_drop]
 have HR1 := Lh (rest_r h.sc (by omega))
 rw [← hr] at HR1
 have HHd := Lh (fun w => heredoc_r r (by omega) w)
 rw [hrl, hh, show hereV (some (n, name, more)) = .tuple #[.int .i64 (n : Nat), .string (ba name), .bool more] from rfl] at HHd
 have hle := here_le hh
 rw [byt_len, List.length_drop] at hle
 obtain ⟨q, hqq⟩ : ∃ q, q = at_ + n := ⟨_, rfl⟩
 have hqS : q ≤ S.length := by have : n ≤ S.length - at_ := hle.2; omega
 have hn3 : 3 ≤ n := hle.1
 have q1 : (at_ : Int) + (n : Int) = (q : Int) := by omega
 have q2 : (q : Int) ≤ 9223372036854775807 := by omega
 have q3 : -9223372036854775808 ≤ (q : Int) := by omega
 have q4 : IntKind.i64.wrap (q : Int) = (q : Int) := by rw [IntKind.wrap_i64]; omega
 have n0 : (n : Int) > 0 := by omega
 have HC := Lh (fun W (gW : Gr w W) => cut_r (h.gr gW) q hqS (ba name))
 rw [ba_data] at HC
 have hspec := specS_here hh
 rw [List.drop_drop, ← hqq] at hspec
 have hp : place (S.drop at_) = S[at_].1 := by rw [List.drop_eq_getElem_cons hat]; rfl
 rw [hp] at hspec
 obtain ⟨pl, hplS⟩ : ∃ pl, pl = S[at_].1 := ⟨_, rfl⟩
 rw [← hplS] at hspec
 have HplS : Hid (∀ h : at_ < S.length, pl = S[at_].1) := Lh (fun _ => hplS)
 have HSp := Lh hspec
 have Hgs := Lh h.gs
 have Hbw := Lh h.bw
 have Hsc := Lh h.sc
 have Hle := Lh hSl
 have Hat := Lh hat
 have hatq : at_ < q := by omega
 have HqS := Lh hqS
 have Hatq := Lh hatq
 obtain ⟨Y, hY⟩ : ∃ Y, Y = cutS name (S.drop q) := ⟨_, rfl⟩
 rw [← hY] at HC HSp
 have HY := Lh hY
 clear hrl hr hrs hh hle hqq hqS hn3 hspec hp hSl h hplS hat hY hatq
 go_enter Tryz.func52, Tryz.ntmps52
 go_wp2_with fail
 refine (HR1.out).mono ?_
 rintro e1 w1 ⟨rfl, g1⟩
 have G1 := Lh g1
 clear g1
 go_wp2_with fail
 refine (HHd.out _).mono ?_
 rintro e2 w2 ⟨rfl, g2⟩
 have G2 := Lh (G1.out.trans g2)
 clear g2
 obtain ⟨c0, c1, c2, c3, c4, c5, c6, c7, c8, cf⟩ := (Hsc.out.gr G2.out).cells
 go_wp2_with fail
 refine (HC.out _ G2.out).mono ?_
 intro e3 w3 hc
 cases Y with
 | none =>
  obtain ⟨rfl, g3⟩ := hc
  have G3 := Lh (G2.out.trans g3)
  clear g3 c0 c1 c2 c3 c4 c5 c6 c7 c8 cf
  go_wp2_with fail
  go_ret
  rw [HSp.out]
  exact ⟨rfl, G3.out⟩
 | some rr =>
  obtain ⟨rfl, s', pv', hR, hF⟩ := hc
  have R3 := Lh hR
  have F3 := Lh ((Fr.of_but (P := P) (But.of_gr G2.out) Hbw.out).trans hF)
  clear hR hF c0 c1 c2 c3 c4 c5 c6 c7 c8 cf
  have hsub := cut_sub HY.out.symm
  have HG : Hid (G → ∀ c ∈ rr.1, ownC c = true) := Lh (fun hg c hc => Hgs.out hg c (by
   have := hsub.1 c hc
   rw [byt_drop] at this
   exact List.mem_of_mem_drop this))
  have hl2 : rr.1.length + rr.2.length ≤ S.length - q := by have := hsub.2; rw [List.length_drop] at this; exact this
  have hlS : (S.take q ++ rr.2).length ≤ S.length := by rw [List.length_append, List.length_take]; have := HqS.out; omega
  have hat' : at_ < (S.take q ++ rr.2).length := by rw [List.length_append, List.length_take]; have := HqS.out; have := Hatq.out; omega
  have hqb : q ≤ (S.take q ++ rr.2).length := by rw [List.length_append, List.length_take]; have := HqS.out; omega
  have hpl : (S.take q ++ rr.2)[at_].1 = pl := by
   rw [HplS.out Hat.out, List.getElem_append_left (by rw [List.length_take]; have := HqS.out; have := Hatq.out; omega), List.getElem_take]
  have hdr : (S.take q ++ rr.2).drop q = rr.2 := by
   rw [List.drop_append_of_le_length (by rw [List.length_take]; have := HqS.out; omega), List.drop_eq_nil_of_le (by rw [List.length_take]; omega)]; rfl
  have HE : Hid (∀ W w', Fr P base w W → PutP G P base true rt tms ks (herT more pl rr.1) (S.take q ++ rr.2) q ops W w' → SpcP G P base rt tms ks S.length at_ ops w (specS (S.drop at_)) (.returned (.int .i64 1)) w') := Lh (fun W w' f p => by
   rw [HSp.out]
   exact ⟨rfl, S.take q ++ rr.2, q, putP_fr f p, hdr, by have := Hatq.out; have := HqS.out; show rr.2.length < _; omega, hlS, hqb⟩)
  have HPk := Lh (fun W (gW : Gr w3 W) (t : RTok) (k : Int) (tx : ByteArray) (hL : Lk G ⟨k, (S.take q ++ rr.2)[at_].1, tx, ⟨#[]⟩, ⟨#[]⟩, 0⟩ t) hk hk2 => put_here (n0 := q) (R3.out.gr gW) hat' hks t (k := k) (tx := tx) hL hk hk2)
  rw [hpl] at HPk
  have hrr : rr.1.length ≤ 4000 := by have := Hle.out; omega
  have HI := Lh (fun w => inter_r (ba rr.1) (by unfold ba; rw [ba_size]; omega) 0 0 rfl false w)
  rw [ba_data] at HI
  have HL0 := Lh (her_lk0 (G := G) (p := pl) (raw := rr.1))
  have HL1 := Lh (her_lk1 (G := G) (p := pl) (raw := rr.1) HG.out)
  have GA := Lh ((Gr.refl w3).alloc (.cells #[.int .i64 4, .int .i64 0, .string (ba rr.1), .string ⟨#[]⟩, .string ⟨#[]⟩, .int .i64 0] 42))
  have KA := Lh (heap_alloc_new w3 (.cells #[.int .i64 4, .int .i64 0, .string (ba rr.1), .string ⟨#[]⟩, .string ⟨#[]⟩, .int .i64 0] 42))
  have HFw : Hid (∀ W, Gr w3 W → Fr P base w W) := Lh (fun W g => F3.out.trans (Fr.of_but (But.of_gr g) R3.out.bw))
  generalize ba rr.1 = T1 at *
  generalize ba (inR 0 0 false rr.1) = T2 at *
  clear hrr hl2 hlS hat' hqb hpl hdr HG hsub
  cases more with
  | false =>
   clear HI HL1
   go_wp2_with fail
   generalize hW4 : w3.alloc (.cells #[.int .i64 4, .int .i64 0, .string T1, .string ⟨#[]⟩, .string ⟨#[]⟩, .int .i64 0] 42) = W4 at *
   clear hW4
   obtain ⟨c0, c1, c2, c3, c4, c5, c6, c7, c8, cf⟩ := (R3.out.gr GA.out).sc.cells
   obtain ⟨kc, kf⟩ := cellsOf KA.out
   have k0 := kc 0
   have k1 := kc 1
   have k2 := kc 2
   have k3 := kc 3
   have k4 := kc 4
   have k5 := kc 5
   simp at k0 k1 k2 k3 k4 k5
   clear kc
   have HP3 := Lh (HPk.out W4.drew (GA.out.drew) _ 4 T1 HL0.out (by decide) (by simp [herT]))
   have HF4 := Lh (HFw.out W4.drew GA.out.drew)
   go_region_with (go_at_call 55; refine (HP3.out).mono ?_; rintro e9 w9 ⟨rfl, p9⟩; have P9 := Lh p9; clear p9)
   all_goals
    go_wp2_with fail
    go_ret
    exact HE.out _ _ HF4.out P9.out
  | true =>
   clear HL0
   go_wp2_with fail
   refine (HI.out _).mono ?_
   rintro e5 w5 ⟨rfl, g5⟩
   have G5 := Lh (GA.out.trans g5)
   have K5 := Lh ((g5.block _ (Ag KA.out).1).trans KA.out)
   clear g5
   obtain ⟨kc, kf⟩ := cellsOf K5.out
   have k0 := kc 0
   have k1 := kc 1
   have k2 := kc 2
   have k3 := kc 3
   have k4 := kc 4
   have k5 := kc 5
   simp at k0 k1 k2 k3 k4 k5
   clear kc
   go_wp2_with fail
   generalize hW6 : ((((((w5.setCell ⟨w3.heap.size, 0, none⟩ (.int .i64 5)).setCell ⟨w3.heap.size, 1, none⟩ (.int .i64 0)).setCell ⟨w3.heap.size, 2, none⟩ (.string T2)).setCell ⟨w3.heap.size, 3, none⟩ (.string ⟨#[]⟩)).setCell ⟨w3.heap.size, 4, none⟩ (.string ⟨#[]⟩)).setCell ⟨w3.heap.size, 5, none⟩ (.int .i64 0)) = W6 at *
   have G6 : Hid (Gr w3 W6) := Lh (by
    rw [← hW6]
    exact gr_new (gr_new (gr_new (gr_new (gr_new (gr_new G5.out (Nat.le_refl _)) (Nat.le_refl _)) (Nat.le_refl _)) (Nat.le_refl _)) (Nat.le_refl _)) (Nat.le_refl _))
   have K6 : Hid (W6.heap[w3.heap.size]? = some (.cells #[.int .i64 5, .int .i64 0, .string T2, .string ⟨#[]⟩, .string ⟨#[]⟩, .int .i64 0] 42 (0, 0))) := Lh (by
    rw [← hW6]
    simp [World.setCell, Array.getElem?_modify, K5.out])
   clear hW6 k0 k1 k2 k3 k4 k5 kf K5
   obtain ⟨c0, c1, c2, c3, c4, c5, c6, c7, c8, cf⟩ := (R3.out.gr G6.out).sc.cells
   obtain ⟨kc, kf⟩ := cellsOf K6.out
   have k0 := kc 0
   have k1 := kc 1
   have k2 := kc 2
   have k3 := kc 3
   have k4 := kc 4
   have k5 := kc 5
   simp at k0 k1 k2 k3 k4 k5
   clear kc
   have HP3 := Lh (HPk.out W6.drew (G6.out.drew) _ 5 T2 HL1.out (by decide) (by simp [herT]))
   have HF4 := Lh (HFw.out W6.drew G6.out.drew)
   go_region_with (go_at_call 55; refine (HP3.out).mono ?_; rintro e9 w9 ⟨rfl, p9⟩; have P9 := Lh p9; clear p9)
   all_goals
    go_wp2_with fail
    go_ret
    exact HE.out _ _ HF4.out P9.out
theorem special_r (h : RSt G w P base S at_ true en rt tms ops ks s pv tv bv ov) (hat : at_ < S.length) (hks : ks.length ≤ 4000) :
  Calls Tryz.prog 52 #[.pointer (some ⟨P, 0, none⟩)] w (SpcP G P base rt tms ks S.length at_ ops w (specS (S.drop at_))) := by
 cases hh : hereS (byt (S.drop at_)) with
 | some r => obtain ⟨n, name, more⟩ := r; exact special_here h hat hks hh
 | none =>
  cases hq : quoteL (byt (S.drop at_)) with
  | some r => obtain ⟨k, m⟩ := r; exact special_quote h hat hks hh hq
  | none => exact special_var h hat hks hh hq
end Go.Proofs.YthmopindibdhnaaGreatDoor.G
namespace Go.Proofs.YthmopindibdhnaaGreatDoor.G
open Go.RowKit Go.Shelf Go.Maps
variable {w w' : World} {P base : Nat} {s : ByteArray} {pv : Value} {at_ : Nat} {tv bv : Value} {tm : Bool} {ov : Value} {en : Nat} {sg : Bool} {G : Prop} {S : Src} {rt : List RTok} {tms : List Bool} {ops : List Nat} {ks : List Tok}
def plainN (R : Src) : Option (RTok × Src) :=
 match R with
 | [] => none
 | x :: _ =>
  if alphaB x.2.toNat = true then (if wordN (byt R) ≤ 12 then some (asIs 0 (wordN (byt R)) R) else none)
  else if digB x.2.toNat = true then some (asIs 1 (digN (byt R)) R)
  else if 0 < signN (byt R) then some (asIs 3 (signN (byt R)) R) else none
theorem plainN_c (x : Nat × UInt8) (X : Src) : plainN (x :: X) = if alphaB x.2.toNat = true then (if wordN (byt (x :: X)) ≤ 12 then some (asIs 0 (wordN (byt (x :: X))) (x :: X)) else none)
  else if digB x.2.toNat = true then some (asIs 1 (digN (byt (x :: X))) (x :: X))
  else if 0 < signN (byt (x :: X)) then some (asIs 3 (signN (byt (x :: X))) (x :: X)) else none := rfl
theorem plain_N {R : Src} {b : Bool} (h : b = true → sgnB (byt R) = false) : plainS R b = plainN R := by
 have hs : signS (byt R) b = signN (byt R) := by
  cases b with
  | true => exact signS_no (h rfl) true
  | false =>
   unfold signS
   by_cases h0 : 0 < signN (byt R)
   ·rw [if_pos h0]
   ·rw [if_neg h0, if_neg (by rintro ⟨h1, _⟩; cases h1)]; omega
 unfold plainS plainN
 rw [hs]
 cases R <;> rfl
theorem spec_none {R : Src} (h : specS R = some none) : sgnB (byt R) = false := by
 unfold specS at h
 split at h
 ·rename_i n name more _
  cases hc : cutS name (R.drop n) with
  | none => rw [hc] at h; cases h
  | some q => rw [hc] at h; cases h
 ·split at h
  ·rename_i k n _
   cases hq : quoteS (place R) k (R.drop n) with
   | none => rw [hq] at h; cases h
   | some q => rw [hq] at h; cases h
  ·split at h
   ·cases h
   ·split at h
    ·cases h
    ·rename_i hs
     simpa using hs
   ·cases h
theorem digN_0 {B : List UInt8} {c : UInt8} {t : List UInt8} (hB : B = c :: t) (h : digB c.toNat = true) : digR B (B.length + 1) 0 = digN B := by
 rw [digR, hB]
 simp only [List.getElem?_cons_zero, h, if_true]
 rfl
theorem digN_no {B : List UInt8} {c : UInt8} {t : List UInt8} (hB : B = c :: t) (h : digB c.toNat = false) : digR B (B.length + 1) 0 = 0 := by
 rw [digR, hB]
 simp only [List.getElem?_cons_zero, h]
 rfl
theorem digR_le (l : List UInt8) : ∀ f n, n ≤ l.length → n ≤ digR l f n ∧ digR l f n ≤ l.length
 | 0, n, h => ⟨Nat.le_refl _, h⟩
 | f + 1, n, h => by
  rw [digR]
  by_cases hn : n < l.length
  ·rw [List.getElem?_eq_getElem hn]
   simp only
   split
   ·have := digR_le l f (n + 1) hn; omega
   ·omega
  ·rw [List.getElem?_eq_none (by omega)]; simp only; omega
theorem signN_le (B : List UInt8) : signN B ≤ B.length := by
 unfold signN
 have := signGo_le B (min 3 B.length)
 omega
def NxtP (G : Prop) (P base : Nat) (tm : Bool) (rt : List RTok) (tms : List Bool) (ks : List Tok) (L a en : Nat) (ops : List Nat) (w : World) (X : Option (RTok × Src)) (e : Ending) (w' : World) : Prop :=
 match X with
 | none => e = .returned (.bool false) ∧ Gr w w'
 | some r => e = .returned (.bool true) ∧ NewP G P base tm rt tms ks (braceS r.1 rt tms (decide (en = a)) ops).1 r.2 (braceS r.1 rt tms (decide (en = a)) ops).2 L a w w'
theorem spc_nxt {L a en : Nat} {r : RTok × Src} {R : Src} (h : specS R = some (some r)) (hp : NewP G P base true rt tms ks r.1 r.2 ops L a w w') : NxtP G P base true rt tms ks L a en ops w (nextS true R true) (.returned (.bool true)) w' := by
 rw [next_term, h]
 refine ⟨rfl, ?_⟩
 rw [spec_brace h]
 exact hp
theorem as_nxt {k n : Nat} {W : World} (hk : k ≠ 3) (g : Gr w W) (hb0 : base ≤ w.heap.size) (hn : 0 < n) (hl : at_ + n ≤ S.length) (hp : PutP G P base tm rt tms ks (asIs k n (S.drop at_)).1 S (at_ + n) ops W w') :
  NxtP G P base tm rt tms ks S.length at_ en ops w (some (asIs k n (S.drop at_))) (.returned (.bool true)) w' := by
 have h1 : ∀ l, isSg (asIs k n (S.drop at_)).1 l = false := fun l => isSg_no hk l
 refine ⟨rfl, ?_⟩
 have h2 : braceS (asIs k n (S.drop at_)).1 rt tms (decide (en = at_)) ops = ((asIs k n (S.drop at_)).1, ops) := by
  unfold braceS
  rw [if_neg (by rw [h1]; decide), if_neg (by rw [h1]; decide)]
 rw [h2]
 have h3 : (asIs k n (S.drop at_)).2 = S.drop (at_ + n) := by unfold asIs; rw [List.drop_drop]
 rw [h3]
 exact newP_here g hb0 (by omega) hl hp
theorem sign_nxt {W : World} {n : Nat} {e : Ending} (g : Gr w W) (hb0 : base ≤ w.heap.size) (hl : n ≤ S.length - at_) (hat : at_ < S.length) (hp : SignP G P base tm rt tms ks S at_ en ops W n e w') :
  (∃ b, e = .returned (.bool b)) ∧ NxtP G P base tm rt tms ks S.length at_ en ops w (if 0 < n then some (asIs 3 n (S.drop at_)) else none) e w' := by
 cases n with
 | zero => exact ⟨⟨_, hp.1⟩, hp.1, g.trans hp.2⟩
 | succ n =>
  refine ⟨⟨_, hp.1⟩, ?_⟩
  rw [if_pos (by omega)]
  refine ⟨hp.1, ?_⟩
  have h3 : (asIs 3 (n + 1) (S.drop at_)).2 = S.drop (at_ + (n + 1)) := by unfold asIs; rw [List.drop_drop]
  rw [h3]
  exact newP_here g hb0 (by omega) (by omega) hp.2
theorem spc_nxt' {L a en : Nat} {r : RTok × Src} {R : Src} (htm : tm = true) (h : specS R = some (some r)) (hp : NewP G P base true rt tms ks r.1 r.2 ops L a w w') : NxtP G P base tm rt tms ks L a en ops w (nextS true R tm) (.returned (.bool true)) w' := by
 subst htm; exact spc_nxt h hp
theorem next_term' (htm : tm = true) (R : Src) : nextS true R tm = match specS R with
  | none => none
  | some none => plainS R true
  | some (some r) => some r := by subst htm; exact next_term R
theorem next_off (htm : tm = false) (R : Src) : nextS true R tm = plainN R := by
 subst htm
 unfold nextS
 rw [if_neg (by decide)]
 exact plain_N (by intro e; cases e)
theorem special_t (h : RSt G w P base S at_ tm en rt tms ops ks s pv tv bv ov) (hat : at_ < S.length) (hks : ks.length ≤ 4000) (htm : tm = true) :
  Calls Tryz.prog 52 #[.pointer (some ⟨P, 0, none⟩)] w (SpcP G P base rt tms ks S.length at_ ops w (specS (S.drop at_))) := by
 subst htm; exact special_r h hat hks
set_option maxRecDepth 100000 in
set_option maxHeartbeats 4000000 in
theorem next_r (h : RSt G w P base S at_ tm en rt tms ops ks s pv tv bv ov) (hat : at_ < S.length) (hks : ks.length ≤ 4000) (hop : ops.length ≤ 4000) :
  Calls Tryz.prog 35 #[.pointer (some ⟨P, 0, none⟩)] w (NxtP G P base tm rt tms ks S.length at_ en ops w (nextS true (S.drop at_) tm)) := by
 have hsz := h.size
 have hSl := h.le
 obtain ⟨r, hr⟩ : ∃ r, r = s.extract at_ s.size := ⟨_, rfl⟩
 have hrl : r.data.toList = byt (S.drop at_) := by rw [hr, dropE, h.eq, byt_drop]
 have hrs : r.size = S.length - at_ := by rw [← sizeL, hrl, byt_len, List.length_drop]
 have HR1 := Lh (fun W (gW : Gr w W) => rest_r (h.sc.gr gW) (show at_ ≤ s.size by omega))
 rw [← hr] at HR1
 have HW := Lh (fun w => word_r r (by omega) w)
 have HD := Lh dig_r
 have H := Lh h
 have HSpc := Lh (special_t h hat hks)
 have HSgn := Lh (fun W (gW : Gr w W) => sign_r (h.gr gW) hat hks hop)
 have HPut := Lh (fun W (gW : Gr w W) (k n : Nat) (hk : k ≤ 9) (tx : ByteArray) (htx : tx.data.toList = (byt (S.drop at_)).take n) => put_asIs (h.gr gW) hat hks k n hk htx)
 have HE := Lh (fun k => show (r.extract 0 k).data.toList = (byt (S.drop at_)).take k by rw [takeB, hrl])
 have Hbw := Lh h.bw
 obtain ⟨R, hR⟩ : ∃ R, R = S.drop at_ := ⟨_, rfl⟩
 obtain ⟨x, X, hx⟩ : ∃ x X, R = x :: X := ⟨_, _, by rw [hR]; exact List.drop_eq_getElem_cons hat⟩
 have hB : byt R = x.2 :: byt X := by rw [hx]; rfl
 have hBl : (byt R).length = r.size := by rw [← sizeL, hrl, hR]
 rw [← hR] at hrl HSpc HSgn HPut HE
 rw [hrl] at HW
 have Has := Lh (fun (k n : Nat) (hk : k ≠ 3) W w' (g : Gr w W) (hn : 0 < n) (hl : at_ + n ≤ S.length) hp => (by
  have := as_nxt (en := en) (G := G) (P := P) (tm := tm) (rt := rt) (tms := tms) (ks := ks) (ops := ops) (k := k) (w' := w') hk g h.bw hn hl (by rw [← hR]; exact hp)
  rw [← hR] at this; exact this : NxtP G P base tm rt tms ks S.length at_ en ops w (some (asIs k n R)) (.returned (.bool true)) w'))
 have Hsn := Lh (fun (W w' : World) (e : Ending) (g : Gr w W) hp => (by
  have := sign_nxt (e := e) (n := signN (byt R)) (en := en) (G := G) (P := P) (tm := tm) (rt := rt) (tms := tms) (ks := ks) (ops := ops) (w' := w') g h.bw (by have := signN_le (byt R); omega) hat hp
  rw [← hR] at this; exact this : (∃ b, e = .returned (.bool b)) ∧ NxtP G P base tm rt tms ks S.length at_ en ops w (if 0 < signN (byt R) then some (asIs 3 (signN (byt R)) R) else none) e w'))
 have Hspn := Lh (fun (htm : tm = true) (r : RTok × Src) w' h hp => spc_nxt' (en := en) (G := G) (P := P) (base := base) (rt := rt) (tms := tms) (ks := ks) (ops := ops) (w := w) (w' := w') (L := S.length) (a := at_) (R := R) (r := r) htm h hp)
 have Hnx := Lh (fun (htm : tm = true) => next_term' htm R)
 have Hnf := Lh (fun (htm : tm = false) => next_off htm R)
 obtain ⟨Y, hY⟩ : ∃ Y, Y = nextS true R tm := ⟨_, rfl⟩
 rw [← hR, ← hY]
 rw [← hY] at Hspn Hnx Hnf
 have HrR := Lh hrl
 have Hat := Lh hat
 have Hrs := Lh hrs
 have HBl := Lh hBl
 have HB := Lh hB
 obtain ⟨c0, c1, c2, c3, c4, c5, c6, c7, c8, cf⟩ := h.sc.cells
 clear h hsz hSl hr hrl hrs hR hBl hY hat hks hop hB
 go_enter Tryz.func35, Tryz.ntmps35
 go_upto_if 10 with fail
 go_cut [] from 11 (fun wx => Gr w wx ∧ Y = plainN R)
 case first =>
  cases htm : tm with
  | false =>
   have HN := Lh (Hnf.out htm)
   subst htm
   go_wp2_with fail
   go_meet
   exact ⟨Gr.refl _, HN.out⟩
  | true =>
   have HSp := Lh (HSpc.out htm)
   have HSn := Lh (Hspn.out htm)
   have HNx := Lh (Hnx.out htm)
   subst htm
   clear HSpc Hspn Hnx Hnf
   go_wp2_with fail
   refine (HSp.out).mono ?_
   intro e1 w1 hc
   cases hsp : specS R with
   | none =>
    rw [hsp] at hc
    obtain ⟨rfl, g1⟩ := hc
    have hyn : Y = none := by rw [HNx.out, hsp]
    have G1 := Lh g1
    clear g1 HSn HNx hsp
    go_wp2_with fail
    go_ret
    rw [hyn]
    exact ⟨rfl, G1.out⟩
   | some o =>
    cases o with
    | none =>
     rw [hsp] at hc
     obtain ⟨rfl, g1⟩ := hc
     have hyn : Hid (Y = plainN R) := Lh (by rw [HNx.out, hsp]; exact plain_N (fun _ => spec_none hsp))
     have G1 := Lh g1
     clear g1 HSn HNx hsp
     go_wp2_with fail
     go_meet
     exact ⟨G1.out, hyn.out⟩
    | some q =>
     rw [hsp] at hc
     obtain ⟨rfl, hp⟩ := hc
     have HF := Lh (HSn.out q _ hsp hp)
     clear hp HSn HNx hsp
     go_wp2_with fail
     go_ret
     exact HF.out
 case rest =>
 obtain ⟨hg, hYN⟩ := hcut
 have GC := Lh hg
 have HYN := Lh hYN
 clear hg hYN HSpc Hspn Hnx Hnf c0 c1 c2 c3 c4 c5 c6 c7 c8 cf
 go_wp2_with fail
 refine (HR1.out _ GC.out).mono ?_
 rintro e2 w2 ⟨rfl, g2⟩
 have G2 := Lh (GC.out.trans g2)
 clear g2
 go_wp2_with fail
 refine (HW.out _).mono ?_
 rintro e3 w3 ⟨rfl, rfl⟩
 obtain ⟨W, hW⟩ : ∃ W, W = wordN (byt R) := ⟨_, rfl⟩
 have hWl := wordN_le (byt R)
 rw [← hW] at hWl ⊢
 cases ha : alphaB (x.2.toNat : Int) with
 | true =>
  have hW0 : 0 < W := by
   rw [hW, HB.out]
   unfold wordN
   simp only [List.getElem?_cons_zero, ha, if_true]
   have := (wordR_le (l := x.2 :: byt X) (x.2 :: byt X).length 1 (by simp)).2
   omega
  have f0 : (W : Int) > 0 := by omega
  by_cases h12 : W ≤ 12
  ·have HYa : Hid (Y = some (asIs 0 W R)) := Lh (by rw [HYN.out, hx, plainN_c, if_pos ha, ← hx, ← hW, if_pos h12])
   have f1 : ¬ (W : Int) > 12 := by omega
   have f2 : decide ((12 : Int) < (W : Int)) = false := decide_eq_false f1
   have f3 : decide (12 < W) = false := decide_eq_false (by omega)
   have hWr : W ≤ r.size := by rw [← HBl.out]; exact hWl
   have f4 : (W : Int) ≤ (r.size : Int) := by omega
   obtain ⟨q, hq⟩ : ∃ q, q = at_ + W := ⟨_, rfl⟩
   have hqS : q ≤ S.length := by have := Hrs.out; have := Hat.out; omega
   have HqS := Lh hqS
   have hle4 := H.out.le
   have q1 : (at_ : Int) + (W : Int) = (q : Int) := by omega
   have q2 : (q : Int) ≤ 9223372036854775807 := by omega
   have q3 : -9223372036854775808 ≤ (q : Int) := by omega
   have q4 : IntKind.i64.wrap (q : Int) = (q : Int) := by rw [IntKind.wrap_i64]; omega
   have HP3 := Lh (HPut.out w2.drew (G2.out.trans (Gr.refl _).drew) 0 W (by decide) (r.extract 0 W) (HE.out W))
   have HF := Lh (fun W' hp => Has.out 0 W (by decide) w2.drew W' (G2.out.trans (Gr.refl _).drew) hW0 (by rw [← hq]; exact hqS) hp)
   rw [← hq] at HP3 HF
   rw [← HYa.out] at HF
   obtain ⟨c0, c1, c2, c3, c4, c5, c6, c7, c8, cf⟩ := (H.out.sc.gr G2.out).cells
   clear ha hW hWl hW0 h12 hWr hq hqS hle4 hx
   go_wp2_with fail
   go_region_with (go_at_call 55; refine (HP3.out).mono ?_; rintro e9 w9 ⟨rfl, p9⟩; have P9 := Lh p9; clear p9)
   all_goals
    go_wp2_with fail
    go_ret
    exact HF.out _ P9.out
  ·have hyn : Y = none := by rw [HYN.out, hx, plainN_c, if_pos ha, ← hx, ← hW, if_neg h12]
   have f1 : (W : Int) > 12 := by omega
   clear ha hW hWl hW0 h12 hx
   go_wp2_with fail
   go_ret
   rw [hyn]
   exact ⟨rfl, G2.out⟩
 | false =>
  have hW0 : W = 0 := by
   rw [hW, HB.out]
   unfold wordN
   simp only [List.getElem?_cons_zero, ha]
   rfl
  have f0 : ¬ (W : Int) > 0 := by omega
  have f1 : decide ((0 : Int) < (W : Int)) = false := decide_eq_false f0
  have f2 : decide (0 < W) = false := decide_eq_false (by omega)
  obtain ⟨D, hD⟩ : ∃ D, D = digR (byt R) ((byt R).length + 1) 0 := ⟨_, rfl⟩
  have HD0 : Hid (∃ f, D = digR (byt R) f 0 ∧ (byt R).length ≤ 0 + f) := Lh ⟨_, hD, by omega⟩
  have HDl : Hid (D ≤ (byt R).length) := Lh (by rw [hD]; exact (digR_le _ _ _ (Nat.zero_le _)).2)
  have HYd : Hid ((0 < D → Y = some (asIs 1 D R)) ∧ (D = 0 → Y = if 0 < signN (byt R) then some (asIs 3 (signN (byt R)) R) else none)) := Lh (by
   rw [HYN.out, hx, plainN_c, if_neg (by rw [ha]; decide), ← hx]
   cases hd : digB (x.2.toNat : Int) with
   | true =>
    have e1 := digN_0 HB.out hd
    have hge : 1 ≤ D := by
     rw [hD, e1]
     unfold digN
     exact (digR_le _ _ 1 (by rw [HB.out]; simp)).1
    refine ⟨fun _ => ?_, fun e => by omega⟩
    rw [if_pos rfl, ← e1, ← hD]
   | false =>
    have e1 := digN_no HB.out hd
    refine ⟨fun e => by rw [hD, e1] at e; omega, fun _ => ?_⟩
    rw [if_neg (by decide)])
  have HBy := Lh (fun n (hn : n < r.size) (hL : n < (byt R).length) => (show r[n] = (byt R)[n] by
   have hL2 : n < r.data.toList.length := by rw [sizeL]; exact hn
   rw [byteE r n hn hL2]; simp only [HrR.out]))
  clear ha hW hWl hW0 hD hx
  go_wp2_with fail
  go_loopw [6] (fun iv wr => ∃ i f : Nat, iv = .int .i64 (i : Int) ∧ i ≤ r.size ∧ (byt R).length ≤ i + f ∧ Hid (D = digR (byt R) f i) ∧ w2 = wr) (fun iv _ => leftTo r.size iv)
  case atStart => obtain ⟨f, h1, h2⟩ := HD0.out; exact ⟨0, f, rfl, Nat.zero_le _, h2, Lh h1, rfl⟩
  case round =>
   obtain ⟨i, f, rfl, hi, hf, hDi, rfl⟩ := hrel
   clear HD0
   have i1 : (i : Int) + 1 ≤ 9223372036854775807 := by have := H.out.le; have := Hrs.out; omega
   have i2 : -9223372036854775808 ≤ (i : Int) + 1 := by omega
   have hend : Hid (∀ hy : D = i, True) := Lh (fun _ => trivial)
   by_cases hc : i < r.size
   ·have hci : (i : Int) < (r.size : Int) := by omega
    have hL : i < (byt R).length := by rw [HBl.out]; exact hc
    have ex := HBy.out i hc hL
    have hDg := Lh (fun w => HD.out ((byt R)[i].toNat : Int) w)
    cases hd : digB ((byt R)[i].toNat : Int) with
    | true =>
     have HE2 : Hid (∃ f', (byt R).length ≤ i + 1 + f' ∧ D = digR (byt R) f' (i + 1)) := Lh (by rw [hDi.out]; exact digR_on hL hf hd)
     rw [hd] at hDg
     have Hc := Lh hc
     clear hd hf hDi HBy HD
     generalize (byt R)[i] = y at *
     clear hL
     go_wp2_with (go_at_call 56; refine (hDg.out _).mono ?_; rintro e4 w4 ⟨rfl, rfl⟩)
     go_roundw
     case rel => obtain ⟨f', h1, h2⟩ := HE2.out; exact ⟨i + 1, f', rfl, Hc.out, h1, Lh h2, by first | rfl | trivial⟩
     case measure => simp [leftTo]; omega
    | false =>
     have HE2 : Hid (D = i) := Lh (by rw [hDi.out]; exact digR_stop hL hd)
     rw [hd] at hDg
     clear hd hf hDi HBy HD
     generalize (byt R)[i] = y at *
     clear hL
     have gi : Hid (D = i) := HE2
     by_cases hD0 : 0 < D
     ·have HYa : Hid (Y = some (asIs 1 D R)) := Lh (HYd.out.1 hD0)
      have f6 : (i : Int) > 0 := by have := gi.out; omega
      have f4 : (i : Int) ≤ (r.size : Int) := by omega
      obtain ⟨q, hq⟩ : ∃ q, q = at_ + i := ⟨_, rfl⟩
      have hqS : q ≤ S.length := by have := Hrs.out; have := Hat.out; omega
      have hle4 := H.out.le
      have q1 : (at_ : Int) + (i : Int) = (q : Int) := by omega
      have q2 : (q : Int) ≤ 9223372036854775807 := by omega
      have q3 : -9223372036854775808 ≤ (q : Int) := by omega
      have q4 : IntKind.i64.wrap (q : Int) = (q : Int) := by rw [IntKind.wrap_i64]; omega
      have HP3 := Lh (HPut.out w2.drew (G2.out.trans (Gr.refl _).drew) 1 i (by decide) (r.extract 0 i) (HE.out i))
      have HF := Lh (fun W' hp => Has.out 1 i (by decide) w2.drew W' (G2.out.trans (Gr.refl _).drew) (by have := gi.out; omega) (by rw [← hq]; exact hqS) hp)
      rw [← hq] at HP3 HF
      have HYi : Y = some (asIs 1 i R) := by rw [HYa.out, gi.out]
      rw [← HYi] at HF
      clear HYi i1 i2
      obtain ⟨c0, c1, c2, c3, c4, c5, c6, c7, c8, cf⟩ := (H.out.sc.gr G2.out).cells
      clear hq hqS hle4 hD0
      go_wp2_with (go_at_call 56; refine (hDg.out _).mono ?_; rintro e4 w4 ⟨rfl, rfl⟩)
      go_region_with (go_at_call 55; refine (HP3.out).mono ?_; rintro e9 w9 ⟨rfl, p9⟩; have P9 := Lh p9; clear p9)
      all_goals
       go_wp2_with fail
       go_ret
       exact HF.out _ P9.out
     ·have HYa : Hid (Y = if 0 < signN (byt R) then some (asIs 3 (signN (byt R)) R) else none) := Lh (HYd.out.2 (by omega))
      have f6 : ¬ (i : Int) > 0 := by have := gi.out; omega
      have f7 : decide ((0 : Int) < (i : Int)) = false := decide_eq_false f6
      have f8 : decide (0 < i) = false := decide_eq_false (by omega)
      clear hD0 i1 i2
      go_wp2_with (go_at_call 56; refine (hDg.out _).mono ?_; rintro e4 w4 ⟨rfl, rfl⟩)
      refine (HSgn.out _ G2.out).mono ?_
      intro e5 w5 hp
      obtain ⟨⟨b, rfl⟩, hN⟩ := Hsn.out _ _ _ G2.out hp
      rw [← HYa.out] at hN
      have HN := Lh hN
      clear hN hp
      go_wp2_with fail
      go_ret
      exact HN.out
   ·have hci : decide ((i : Int) < (r.size : Int)) = false := by simp; omega
    have hci2 : ¬ (i : Int) < (r.size : Int) := by omega
    have hci3 : decide (i < r.size) = false := decide_eq_false hc
    have HE2 : Hid (D = i) := Lh (by rw [hDi.out]; exact digR_end (by rw [HBl.out]; omega))
    clear hf hDi HBy HD hc
    have gi : Hid (D = i) := HE2
    by_cases hD0 : 0 < D
    ·have HYa : Hid (Y = some (asIs 1 D R)) := Lh (HYd.out.1 hD0)
     have f6 : (i : Int) > 0 := by have := gi.out; omega
     have f4 : (i : Int) ≤ (r.size : Int) := by omega
     obtain ⟨q, hq⟩ : ∃ q, q = at_ + i := ⟨_, rfl⟩
     have hqS : q ≤ S.length := by have := Hrs.out; have := Hat.out; omega
     have hle4 := H.out.le
     have q1 : (at_ : Int) + (i : Int) = (q : Int) := by omega
     have q2 : (q : Int) ≤ 9223372036854775807 := by omega
     have q3 : -9223372036854775808 ≤ (q : Int) := by omega
     have q4 : IntKind.i64.wrap (q : Int) = (q : Int) := by rw [IntKind.wrap_i64]; omega
     have HP3 := Lh (HPut.out w2.drew (G2.out.trans (Gr.refl _).drew) 1 i (by decide) (r.extract 0 i) (HE.out i))
     have HF := Lh (fun W' hp => Has.out 1 i (by decide) w2.drew W' (G2.out.trans (Gr.refl _).drew) (by have := gi.out; omega) (by rw [← hq]; exact hqS) hp)
     rw [← hq] at HP3 HF
     have HYi : Y = some (asIs 1 i R) := by rw [HYa.out, gi.out]
     rw [← HYi] at HF
     clear HYi i1 i2
     obtain ⟨c0, c1, c2, c3, c4, c5, c6, c7, c8, cf⟩ := (H.out.sc.gr G2.out).cells
     clear hq hqS hle4 hD0
     go_wp2_with fail
     go_region_with (go_at_call 55; refine (HP3.out).mono ?_; rintro e9 w9 ⟨rfl, p9⟩; have P9 := Lh p9; clear p9)
     all_goals
      go_wp2_with fail
      go_ret
      exact HF.out _ P9.out
    ·have HYa : Hid (Y = if 0 < signN (byt R) then some (asIs 3 (signN (byt R)) R) else none) := Lh (HYd.out.2 (by omega))
     have f6 : ¬ (i : Int) > 0 := by have := gi.out; omega
     have f7 : decide ((0 : Int) < (i : Int)) = false := decide_eq_false f6
     have f8 : decide (0 < i) = false := decide_eq_false (by omega)
     clear hD0 i1 i2
     go_wp2_with fail
     refine (HSgn.out _ G2.out).mono ?_
     intro e5 w5 hp
     obtain ⟨⟨b, rfl⟩, hN⟩ := Hsn.out _ _ _ G2.out hp
     rw [← HYa.out] at hN
     have HN := Lh hN
     clear hN hp
     go_wp2_with fail
     go_ret
     exact HN.out
end Go.Proofs.YthmopindibdhnaaGreatDoor.G
namespace Go.Proofs.YthmopindibdhnaaGreatDoor
open Go.RowKit Go.Shelf
def forL (l : List UInt8) : Nat := l.findIdx fun c => !ownB (c.toNat : Int)
theorem forL_le (l : List UInt8) : forL l ≤ l.length := List.findIdx_le_length
theorem forL_at {l : List UInt8} {i : Nat} (hi : i < l.length) (h : ∀ n (_ : n < i) (h : n < l.length), ownB (l[n].toNat : Int) = true) (hn : ownB (l[i].toNat : Int) = false) : forL l = i := by
 unfold forL
 rw [List.findIdx_eq hi]
 exact ⟨by simp [hn], fun j hj => by simp [h j hj (by omega)]⟩
theorem forL_end {l : List UInt8} (h : ∀ n (h : n < l.length), ownB (l[n].toNat : Int) = true) : forL l = l.length := by
 unfold forL
 rw [List.findIdx_eq_length]
 intro x hx
 obtain ⟨n, hn, rfl⟩ := List.getElem_of_mem hx
 simp [h n hn]
set_option maxRecDepth 100000 in
set_option maxHeartbeats 1000000 in
theorem foreign_p (s : ByteArray) (hs : s.size ≤ 140737488351232) (w : World) :
  Calls Tryz.prog 37 #[.string s] w fun e w' => e = .returned (.int .i64 (forL s.data.toList)) ∧ Gr w w' := by
 obtain ⟨l, hl⟩ : ∃ l, l = s.data.toList := ⟨_, rfl⟩
 have hsz : s.size = l.length := by rw [hl, ← sizeL]
 have HB := Lh (fun n (h : n < s.size) (h' : n < l.length) => (show s[n] = l[n] by subst hl; exact byteE s n h h'))
 have Hsz := Lh hsz
 rw [← hl]
 have HR : Hid (forL l = forL l) := Lh rfl
 generalize hRR : forL l = R at *
 have HR2 := Lh hRR
 clear hl hsz HR hRR
 go_enter Tryz.func37, Tryz.ntmps37
 go_wp2_with fail
 go_loopw [3, 4, 7] (fun _ _ iv wr => ∃ i : Nat, iv = .int .i64 (i : Int) ∧ i ≤ s.size ∧ Gr w wr ∧ Hid (∀ n (_ : n < i) (h : n < l.length), ownB (l[n].toNat : Int) = true)) (fun _ _ iv _ => leftTo s.size iv)
 case atStart => exact ⟨0, rfl, Nat.zero_le _, Gr.refl w, Lh (fun n h => absurd h (Nat.not_lt_zero _))⟩
 case round =>
  obtain ⟨i, rfl, hi, hg, hA⟩ := hrel
  have Hg := Lh hg
  clear hg
  by_cases hc : i < s.size
  ·have hci : (i : Int) < (s.size : Int) := by omega
   have hL : i < l.length := by rw [← Hsz.out]; exact hc
   have ex := HB.out i hc hL
   have hi1 : (i : Int) + 1 ≤ 9223372036854775807 := by omega
   have hi2 : -9223372036854775808 ≤ (i : Int) + 1 := by omega
   have HN : Hid (ownB (l[i].toNat : Int) = true → ∀ n (_ : n < i + 1) (h : n < l.length), ownB (l[n].toNat : Int) = true) := Lh (fun h n h1 h2 => by
    by_cases h3 : n = i
    ·subst h3; exact h
    ·exact hA.out n (by omega) h2)
   have HE : Hid (ownB (l[i].toNat : Int) = false → R = i) := Lh (fun h => by rw [← HR2.out]; exact forL_at hL hA.out h)
   generalize l[i] = x at *
   clear HB hL
   have hx : (x.toNat : Int) = 9 ∨ (x.toNat : Int) = 10 ∨ ((x.toNat : Int) ≠ 9 ∧ (x.toNat : Int) ≠ 10 ∧ 32 ≤ (x.toNat : Int) ∧ (x.toNat : Int) ≤ 126) ∨ ((x.toNat : Int) ≠ 9 ∧ (x.toNat : Int) ≠ 10 ∧ (x.toNat : Int) < 32) ∨ ((x.toNat : Int) ≠ 9 ∧ (x.toNat : Int) ≠ 10 ∧ 32 ≤ (x.toNat : Int) ∧ 126 < (x.toNat : Int)) := by omega
   rcases hx with hx | hx | ⟨h1, h2, h3, h4⟩ | ⟨h1, h2, h3⟩ | ⟨h1, h2, h3, h4⟩
   ·have HM := Lh (HN.out (by simp [ownB]; omega))
    have t1 : ((x.toNat : Int) != 9) = false := by simp [hx]
    clear hx HN HE
    go_wp2_with fail
    go_roundw
    case rel => exact ⟨i + 1, rfl, hc, Hg.out, HM⟩
    case measure => simp only [leftTo]; omega
   ·have HM := Lh (HN.out (by simp [ownB]; omega))
    have t1 : ((x.toNat : Int) != 9) = true := by simp [hx]
    have t2 : ((x.toNat : Int) != 10) = false := by simp [hx]
    clear hx HN HE
    go_wp2_with fail
    go_roundw
    case rel => exact ⟨i + 1, rfl, hc, Hg.out, HM⟩
    case measure => simp only [leftTo]; omega
   ·have HM := Lh (HN.out (by simp [ownB]; omega))
    have t1 : ((x.toNat : Int) != 9) = true := by simpa using h1
    have t2 : ((x.toNat : Int) != 10) = true := by simpa using h2
    have t3 : ¬ (x.toNat : Int) < 32 := by omega
    have t4 : ¬ 126 < (x.toNat : Int) := by omega
    clear h1 h2 h3 h4 HN HE
    go_wp2_with fail
    go_roundw
    case rel => exact ⟨i + 1, rfl, hc, Hg.out, HM⟩
    case measure => simp only [leftTo]; omega
   ·have E := Lh (HE.out (by simp [ownB]; omega))
    have t1 : ((x.toNat : Int) != 9) = true := by simpa using h1
    have t2 : ((x.toNat : Int) != 10) = true := by simpa using h2
    clear h1 h2 HN HE
    go_wp2_with fail
    go_ret
    rw [E.out]
    exact ⟨rfl, Hg.out⟩
   ·have E := Lh (HE.out (by simp [ownB]; omega))
    have t1 : ((x.toNat : Int) != 9) = true := by simpa using h1
    have t2 : ((x.toNat : Int) != 10) = true := by simpa using h2
    have t3 : ¬ (x.toNat : Int) < 32 := by omega
    clear h1 h2 h3 HN HE
    go_wp2_with fail
    go_ret
    rw [E.out]
    exact ⟨rfl, Hg.out⟩
  ·have E : Hid (R = s.size) := Lh (by rw [← HR2.out, Hsz.out]; exact forL_end fun n h => hA.out n (by have := Hsz.out; omega) h)
   have hci : decide ((i : Int) < (s.size : Int)) = false := by simp; omega
   have hci' : decide (i < s.size) = false := by simp; omega
   clear HB hc
   go_wp2_with fail
   go_ret
   rw [E.out]
   exact ⟨rfl, Hg.out⟩
set_option maxRecDepth 100000 in
theorem isByte_r (x : Int) (w : World) : Calls Tryz.prog 33 #[.int .u8 x] w fun e w' => e = .returned (.bool (ownB x)) ∧ w = w' := by
 have hx : x = 9 ∨ x = 10 ∨ (x ≠ 9 ∧ x ≠ 10 ∧ 32 ≤ x ∧ x ≤ 126) ∨ (x ≠ 9 ∧ x ≠ 10 ∧ ¬ 32 ≤ x) ∨ (x ≠ 9 ∧ x ≠ 10 ∧ 32 ≤ x ∧ ¬ x ≤ 126) := by omega
 rcases hx with h | h | ⟨h1, h2, h3, h4⟩ | ⟨h1, h2, h3⟩ | ⟨h1, h2, h3, h4⟩
 ·have E : ownB x = true := by simp [ownB, h]
  have t1 : (x == 9) = true := by simpa using h
  rw [E]; clear E h
  go_enter Tryz.func33, Tryz.ntmps33
  go_wp2
  go_ret
  exact ⟨rfl, rfl⟩
 ·have E : ownB x = true := by simp [ownB, h]
  have t1 : (x == 9) = false := by rw [h]; rfl
  have t2 : (x == 10) = true := by simpa using h
  rw [E]; clear E h
  go_enter Tryz.func33, Tryz.ntmps33
  go_wp2
  go_ret
  exact ⟨rfl, rfl⟩
 ·have E : ownB x = true := by simp [ownB, h3, h4]
  have t1 : (x == 9) = false := by simpa using h1
  have t2 : (x == 10) = false := by simpa using h2
  rw [E]; clear E h1 h2
  go_enter Tryz.func33, Tryz.ntmps33
  go_wp2
  go_ret
  exact ⟨rfl, rfl⟩
 ·have E : ownB x = false := by simp [ownB, h1, h2, h3]
  have t1 : (x == 9) = false := by simpa using h1
  have t2 : (x == 10) = false := by simpa using h2
  have t3 : decide (32 ≤ x) = false := by simpa using h3
  rw [E]; clear E h1 h2 h3
  go_enter Tryz.func33, Tryz.ntmps33
  go_wp2
  go_ret
  exact ⟨rfl, rfl⟩
 ·have E : ownB x = false := by simp [ownB, h1, h2, h3, h4]
  have t1 : (x == 9) = false := by simpa using h1
  have t2 : (x == 10) = false := by simpa using h2
  have t4 : decide (x ≤ 126) = false := by simpa using h4
  rw [E]; clear E h1 h2 h4
  go_enter Tryz.func33, Tryz.ntmps33
  go_wp2
  go_ret
  exact ⟨rfl, rfl⟩
end Go.Proofs.YthmopindibdhnaaGreatDoor
