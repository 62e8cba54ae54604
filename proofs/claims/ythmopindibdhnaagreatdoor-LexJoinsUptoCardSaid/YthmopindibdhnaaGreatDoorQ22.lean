import Derived.Test.YthmopindibdhnaaGreatDoorQ00
import Derived.Test.YthmopindibdhnaaGreatDoorQ21
namespace Go.Proofs.YthmopindibdhnaaGreatDoor.G
open Go.RowKit Go.Shelf Go.Maps
variable {w w' : World} {P base : Nat} {s : ByteArray} {pv : Value} {at_ : Nat} {tv bv : Value} {tm : Bool} {ov : Value} {en : Nat} {sg : Bool} {G : Prop} {S : Src} {rt : List RTok} {tms : List Bool} {ops : List Nat} {ks : List Tok}
set_option maxRecDepth 100000 in
theorem openOf_0 (h : RSc w P s pv at_ tv bv tm ov en sg) (hO : OwnT w base tv []) :
  Calls Tryz.prog 78 #[.pointer (some ⟨P, 0, none⟩)] w fun e w' => e = .returned (.int .i64 1) ∧ Gr w w' := by
 obtain ⟨ao, cap, rfl⟩ := ownsRow_shape hO
 obtain ⟨c0, c1, c2, c3, c4, c5, c6, c7, c8, cf⟩ := h.cells
 clear h hO
 go_enter Tryz.func78, Tryz.ntmps78
 go_wp2_with fail
 go_ret
 exact ⟨rfl, Gr.refl w⟩
def openB (sg near : Bool) (k : Tok) (E Z : Bool) : Nat :=
 if (sg || (k.kind == 3 && k.text.toList == [45, 62])) = true then 2
 else if (near && (k.kind == 2 || (k.kind == 3 && (k.text.toList == [93] || (k.text.toList == [125] && k.opn == 2))))) = true then 2
 else if (k.kind == 0 || (k.kind == 3 && (k.text.toList == [41] || E))) = true then 1
 else if (k.kind == 3 && k.text.toList == [58] && Z) = true then 1 else 3
theorem bool_near (a b : Nat) : ((a : Int) == (b : Int)) = decide (a = b) := by
 by_cases e : a = b
 ·subst e; simp
 ·have : ((a : Int) == (b : Int)) = false := by simp; omega
  rw [this]; simp [e]
set_option maxRecDepth 100000 in
set_option maxHeartbeats 4000000 in
theorem openOf_1 (h : RSc w P s pv at_ tv bv tm ov en sg) {toks : List Tok} (hO : OwnT w base tv toks) (hl : toks.length ≤ 4000) (k : Tok) (n : Nat) (hn : toks.length = n + 1) (hn0 : n = 0) (hk : toks[n]? = some k) :
  Calls Tryz.prog 78 #[.pointer (some ⟨P, 0, none⟩)] w fun e w' => e = .returned (.int .i64 (openB sg (decide (en = at_)) k (begB k) false : Nat)) ∧ Gr w w' := by
 have hi : n < toks.length := by omega
 obtain ⟨g, cap, rfl, hg, hgs, x0, x1, x2, x3, x4, x5⟩ := tok_at hO hi
 obtain ⟨c0, c1, c2, c3, c4, c5, c6, c7, c8, cf⟩ := h.cells
 have hk2 : toks[n] = k := by rw [List.getElem?_eq_getElem hi] at hk; exact Option.some.inj hk
 rw [hk2] at x0 x1 x2 x3 x4 x5
 have HB1 : Hid (∀ W, Gr w W → Calls Tryz.prog 98 #[.pointer (some ⟨P, 0, none⟩), .int .i64 ((n + 1 : Nat) : Int)] W fun e w' => e = .returned (.bool (begB k)) ∧ Gr W w') := Lh (fun W gW => by
  have := begins_r (h.gr gW) (ownsRow_gr hO gW) (by omega) (n) hi
  rw [hk2] at this
  exact this)
 have nd := bool_near en at_
 obtain ⟨near, hnear⟩ : ∃ b, b = decide (en = at_) := ⟨_, rfl⟩
 rw [← hnear] at nd ⊢
 obtain ⟨m, hm⟩ : ∃ m, m = n + 1 := ⟨_, rfl⟩
 rw [← hm] at HB1
 have hlen : (toks.length : Int) = (m : Int) := by omega
 have hLm : toks.length = m := by omega
 rw [hLm] at c3
 have HLm := Lh hLm
 have n0 : ((m : Int) == 0) = false := by simp; omega
 have n1 : (m : Int) - 1 = ((n : Nat) : Int) := by omega
 have n2 : ((n : Nat) : Int) < (m : Int) := by omega
 have n3 : ¬ (m : Int) ≥ 2 := by omega
 have n3b : decide ((2 : Int) ≤ (m : Int)) = false := decide_eq_false (by omega)
 have n3c : decide (2 ≤ m) = false := decide_eq_false (by omega)
 clear hn0
 obtain ⟨i, hi2⟩ : ∃ i, i = n := ⟨_, rfl⟩
 rw [← hi2] at n1 n2 x0 x1 x2 x3 x4 x5
 have hwi : IntKind.i64.wrap (i : Int) = (i : Int) := by rw [IntKind.wrap_i64]; omega
 have G1 := Lh ((Gr.refl w).alloc (.cells #[.int .i64 0, .int .i64 0, .string ⟨#[]⟩, .string ⟨#[]⟩, .string ⟨#[]⟩, .int .i64 0] 42))
 have K1 := Lh (heap_alloc_new w (.cells #[.int .i64 0, .int .i64 0, .string ⟨#[]⟩, .string ⟨#[]⟩, .string ⟨#[]⟩, .int .i64 0] 42))
 obtain ⟨E, hE⟩ : ∃ E, E = begB k := ⟨_, rfl⟩
 rw [← hE] at HB1 ⊢
 obtain ⟨R, hR⟩ : ∃ R, R = openB sg near k E false := ⟨_, rfl⟩
 have HR := Lh hR
 rw [← hR]
 have H := Lh h
 clear h hO hn hi hk hk2 hm hi2 hR hlen hLm hnear hl hE
 go_enter Tryz.func78, Tryz.ntmps78
 go_wp2_with (refine wpList_store_tok rfl (.tmp 4) (.tmp 20) rfl (t := k) rfl rfl K1.out rfl ?_)
 intro W9 hb9 hk9
 have K9 := Lh hk9
 have GF : Hid (Gr w W9) := Lh (But_gr ((But.of_gr G1.out).late (Nat.le_refl _) hb9))
 clear hb9 hk9 c0 c1 c2 c3 c4 c5 c6 c7 c8 cf x0 x1 x2 x3 x4 x5 K1 G1
 obtain ⟨kc, _⟩ := cellsOf K9.out
 have k0 := kc 0
 have k2 := kc 2
 have k5 := kc 5
 simp [Tok.cells] at k0 k2 k5
 clear kc
 have H9 := Lh (H.out.gr GF.out)
 obtain ⟨c0, c1, c2, c3, c4, c5, c6, c7, c8, cf⟩ := H9.out.cells
 go_wp2_with fail
 go_quiet (fail)
 have GQ : Hid (Gr w (W9.drewN nq)) := Lh (GF.out.drewN _)
 have K2 : Hid ((W9.drewN nq).heap[w.heap.size]? = some (.cells k.cells.toArray 42 (0, 0))) := Lh ((((Gr.refl W9).drewN nq).block _ (Ag K9.out).1).trans K9.out)
 generalize W9.drewN nq = W1 at *
 clear c0 c1 c2 c3 c4 c5 c6 c7 c8 cf k0 k2 k5 K9 H9 GF
 have H1 := Lh (H.out.gr GQ.out)
 obtain ⟨c0, c1, c2, c3, c4, c5, c6, c7, c8, cf⟩ := H1.out.cells
 rw [HLm.out] at c3
 obtain ⟨kc, _⟩ := cellsOf K2.out
 have k0 := kc 0
 have k2 := kc 2
 have k5 := kc 5
 simp [Tok.cells] at k0 k2 k5
 clear kc
 rw [openB] at HR
 by_cases hk3 : k.kind = 3
 ·have q3 : (k.kind == 3) = true := by simpa using hk3
  have q2 : (k.kind == 2) = false := by rw [hk3]; rfl
  have q0 : (k.kind == 0) = false := by rw [hk3]; rfl
  clear hk3
  go_wp2_with fail
  all_goals first
   | (go_ret; refine ⟨?_, GQ.out⟩; rw [HR.out]; simp_all; done)
   | (
     refine (HB1.out _ GQ.out).mono ?_
     rintro e9 w9 ⟨rfl, g9⟩
     have G9 := Lh (GQ.out.trans g9)
     have K9 := Lh ((g9.block _ (Ag K2.out).1).trans K2.out)
     clear g9
     obtain ⟨kd, _⟩ := cellsOf K9.out
     have k0b := kd 0
     have k2b := kd 2
     have k5b := kd 5
     simp [Tok.cells] at k0b k2b k5b
     clear kd
     go_wp2_with fail
     all_goals first
      | (go_ret; refine ⟨?_, G9.out⟩; rw [HR.out]; simp_all; done)
      | skip)
 ·have q3 : (k.kind == 3) = false := by simpa using hk3
  clear hk3
  by_cases hk2 : k.kind = 2
  ·have q2 : (k.kind == 2) = true := by simpa using hk2
   have q0 : (k.kind == 0) = false := by rw [hk2]; rfl
   clear hk2
   go_wp2_with fail
   all_goals
    go_ret
    refine ⟨?_, GQ.out⟩
    rw [HR.out]
    simp_all
  ·have q2 : (k.kind == 2) = false := by simpa using hk2
   clear hk2
   by_cases hk0 : k.kind = 0
   ·have q0 : (k.kind == 0) = true := by simpa using hk0
    clear hk0
    go_wp2_with fail
    all_goals
     go_ret
     refine ⟨?_, GQ.out⟩
     rw [HR.out]
     simp_all
   ·have q0 : (k.kind == 0) = false := by simpa using hk0
    clear hk0
    go_wp2_with fail
    all_goals
     go_ret
     refine ⟨?_, GQ.out⟩
     rw [HR.out]
     simp_all
set_option maxRecDepth 100000 in
set_option maxHeartbeats 4000000 in
theorem openOf_2 (h : RSc w P s pv at_ tv bv tm ov en sg) {toks : List Tok} (hO : OwnT w base tv toks) (hl : toks.length ≤ 4000) (k y : Tok) (n : Nat) (hn : toks.length = n + 2) (hk : toks[n + 1]? = some k) (hy : toks[n]? = some y) (E2 : Bool) (hB2 : ∀ W, Gr w W → Calls Tryz.prog 98 #[.pointer (some ⟨P, 0, none⟩), .int .i64 (n : Int)] W fun e w' => e = .returned (.bool E2) ∧ Gr W w') :
  Calls Tryz.prog 78 #[.pointer (some ⟨P, 0, none⟩)] w fun e w' => e = .returned (.int .i64 (openB sg (decide (en = at_)) k (begB k) (y.kind == 0 && E2) : Nat)) ∧ Gr w w' := by
 have hi : n + 1 < toks.length := by omega
 obtain ⟨g, cap, rfl, hg, hgs, x0, x1, x2, x3, x4, x5⟩ := tok_at hO hi
 obtain ⟨c0, c1, c2, c3, c4, c5, c6, c7, c8, cf⟩ := h.cells
 have hk2 : toks[n + 1] = k := by rw [List.getElem?_eq_getElem hi] at hk; exact Option.some.inj hk
 rw [hk2] at x0 x1 x2 x3 x4 x5
 have HB1 : Hid (∀ W, Gr w W → Calls Tryz.prog 98 #[.pointer (some ⟨P, 0, none⟩), .int .i64 ((n + 1 + 1 : Nat) : Int)] W fun e w' => e = .returned (.bool (begB k)) ∧ Gr W w') := Lh (fun W gW => by
  have := begins_r (h.gr gW) (ownsRow_gr hO gW) (by omega) (n + 1) hi
  rw [hk2] at this
  exact this)
 have HB2 := Lh hB2
 have hiy : n < toks.length := by omega
 obtain ⟨g2, cap2, hv2, zg, zh, y0, z1, z2, z3, z4, z5⟩ := tok_at hO hiy
 have hgg : g2 = g := by injection hv2 with e1 _ _; injection e1 with e1; injection e1 with e1 _ _; exact e1.symm
 have hy2 : toks[n] = y := by rw [List.getElem?_eq_getElem hiy] at hy; exact Option.some.inj hy
 rw [hgg, hy2] at y0
 have Hy0 := Lh y0
 clear zg zh z1 z2 z3 z4 z5 hv2 hgg hy2 y0 hy hB2
 have nd := bool_near en at_
 obtain ⟨near, hnear⟩ : ∃ b, b = decide (en = at_) := ⟨_, rfl⟩
 rw [← hnear] at nd ⊢
 obtain ⟨m, hm⟩ : ∃ m, m = n + 1 + 1 := ⟨_, rfl⟩
 rw [← hm] at HB1
 have hlen : (toks.length : Int) = (m : Int) := by omega
 have hLm : toks.length = m := by omega
 rw [hLm] at c3
 have HLm := Lh hLm
 have n0 : ((m : Int) == 0) = false := by simp; omega
 have n1 : (m : Int) - 1 = ((n + 1 : Nat) : Int) := by omega
 have n2 : ((n + 1 : Nat) : Int) < (m : Int) := by omega
 have n3 : (m : Int) - 2 = (n : Int) := by omega
 have n4 : (n : Int) < (m : Int) := by omega
 have n5 : (2 : Int) ≤ (m : Int) := by omega
 have n6 : 2 ≤ m := by omega
 have hwn : IntKind.i64.wrap (n : Int) = (n : Int) := by rw [IntKind.wrap_i64]; omega
 obtain ⟨i, hi2⟩ : ∃ i, i = n + 1 := ⟨_, rfl⟩
 rw [← hi2] at n1 n2 x0 x1 x2 x3 x4 x5
 have hwi : IntKind.i64.wrap (i : Int) = (i : Int) := by rw [IntKind.wrap_i64]; omega
 have G1 := Lh ((Gr.refl w).alloc (.cells #[.int .i64 0, .int .i64 0, .string ⟨#[]⟩, .string ⟨#[]⟩, .string ⟨#[]⟩, .int .i64 0] 42))
 have K1 := Lh (heap_alloc_new w (.cells #[.int .i64 0, .int .i64 0, .string ⟨#[]⟩, .string ⟨#[]⟩, .string ⟨#[]⟩, .int .i64 0] 42))
 obtain ⟨E, hE⟩ : ∃ E, E = begB k := ⟨_, rfl⟩
 rw [← hE] at HB1 ⊢
 obtain ⟨R, hR⟩ : ∃ R, R = openB sg near k E (y.kind == 0 && E2) := ⟨_, rfl⟩
 have HR := Lh hR
 rw [← hR]
 have H := Lh h
 clear h hO hn hi hk hk2 hm hi2 hR hlen hLm hnear hl hE
 go_enter Tryz.func78, Tryz.ntmps78
 go_wp2_with (refine wpList_store_tok rfl (.tmp 4) (.tmp 20) rfl (t := k) rfl rfl K1.out rfl ?_)
 intro W9 hb9 hk9
 have K9 := Lh hk9
 have GF : Hid (Gr w W9) := Lh (But_gr ((But.of_gr G1.out).late (Nat.le_refl _) hb9))
 clear hb9 hk9 c0 c1 c2 c3 c4 c5 c6 c7 c8 cf x0 x1 x2 x3 x4 x5 K1 G1
 obtain ⟨kc, _⟩ := cellsOf K9.out
 have k0 := kc 0
 have k2 := kc 2
 have k5 := kc 5
 simp [Tok.cells] at k0 k2 k5
 clear kc
 have H9 := Lh (H.out.gr GF.out)
 obtain ⟨c0, c1, c2, c3, c4, c5, c6, c7, c8, cf⟩ := H9.out.cells
 go_wp2_with fail
 go_quiet (fail)
 have GQ : Hid (Gr w (W9.drewN nq)) := Lh (GF.out.drewN _)
 have K2 : Hid ((W9.drewN nq).heap[w.heap.size]? = some (.cells k.cells.toArray 42 (0, 0))) := Lh ((((Gr.refl W9).drewN nq).block _ (Ag K9.out).1).trans K9.out)
 generalize W9.drewN nq = W1 at *
 clear c0 c1 c2 c3 c4 c5 c6 c7 c8 cf k0 k2 k5 K9 H9 GF
 have H1 := Lh (H.out.gr GQ.out)
 obtain ⟨c0, c1, c2, c3, c4, c5, c6, c7, c8, cf⟩ := H1.out.cells
 rw [HLm.out] at c3
 obtain ⟨kc, _⟩ := cellsOf K2.out
 have k0 := kc 0
 have k2 := kc 2
 have k5 := kc 5
 simp [Tok.cells] at k0 k2 k5
 clear kc
 rw [openB] at HR
 have y1 := cell_keep GQ.out Hy0.out
 by_cases hk3 : k.kind = 3
 ·have q3 : (k.kind == 3) = true := by simpa using hk3
  have q2 : (k.kind == 2) = false := by rw [hk3]; rfl
  have q0 : (k.kind == 0) = false := by rw [hk3]; rfl
  clear hk3
  go_wp2_with fail
  all_goals first
   | (go_ret; refine ⟨?_, GQ.out⟩; rw [HR.out]; simp_all; done)
   | (
     refine (HB1.out _ GQ.out).mono ?_
     rintro e9 w9 ⟨rfl, g9⟩
     have G9 := Lh (GQ.out.trans g9)
     have K9 := Lh ((g9.block _ (Ag K2.out).1).trans K2.out)
     clear g9
     obtain ⟨kd, _⟩ := cellsOf K9.out
     have k0b := kd 0
     have k2b := kd 2
     have k5b := kd 5
     simp [Tok.cells] at k0b k2b k5b
     clear kd
     obtain ⟨_, _, _, d3, _, _, _, _, _, _⟩ := (H.out.gr G9.out).cells
     rw [HLm.out] at d3
     have y2 := cell_keep G9.out Hy0.out
     go_wp2_with fail
     all_goals first
      | (go_ret; refine ⟨?_, G9.out⟩; rw [HR.out]; simp_all; done)
      | (
       refine (HB2.out _ G9.out).mono ?_
       rintro e8 w8 ⟨rfl, g8⟩
       have G8 := Lh (G9.out.trans g8)
       clear g8
       go_wp2_with fail
       all_goals (go_ret; refine ⟨?_, G8.out⟩; rw [HR.out]; simp_all)))
 ·have q3 : (k.kind == 3) = false := by simpa using hk3
  clear hk3
  by_cases hk2 : k.kind = 2
  ·have q2 : (k.kind == 2) = true := by simpa using hk2
   have q0 : (k.kind == 0) = false := by rw [hk2]; rfl
   clear hk2
   go_wp2_with fail
   all_goals
    go_ret
    refine ⟨?_, GQ.out⟩
    rw [HR.out]
    simp_all
  ·have q2 : (k.kind == 2) = false := by simpa using hk2
   clear hk2
   by_cases hk0 : k.kind = 0
   ·have q0 : (k.kind == 0) = true := by simpa using hk0
    clear hk0
    go_wp2_with fail
    all_goals
     go_ret
     refine ⟨?_, GQ.out⟩
     rw [HR.out]
     simp_all
   ·have q0 : (k.kind == 0) = false := by simpa using hk0
    clear hk0
    go_wp2_with fail
    all_goals
     go_ret
     refine ⟨?_, GQ.out⟩
     rw [HR.out]
     simp_all
theorem int_nat (a b : Nat) : ((a : Int) == (b : Int)) = (a == b) := by
 by_cases e : a = b
 ·subst e; simp
 ·have h1 : ((a : Int) == (b : Int)) = false := by simp; omega
  have h2 : (a == b) = false := by simpa using e
  rw [h1, h2]
def colZ : List RTok → Bool
 | [] => false
 | y :: ys => y.kind == 0 && begS ys
theorem openS_of {x : RTok} {xs : List RTok} {tms : List Bool} {k : Tok} (h : Lk G k x) (near : Bool) : openS (x :: xs) tms near = openB (sgB (x :: xs) tms) near k (begB k) (colZ xs) := by
 have k2 : (x.kind == 2) = (k.kind == 2) := by rw [h.kind]; exact (int_nat x.kind 2).symm
 have k0 : (x.kind == 0) = (k.kind == 0) := by rw [h.kind]; exact (int_nat x.kind 0).symm
 have o2 : (x.opn == 2) = (k.opn == 2) := by rw [h.opn]; exact (int_nat x.opn 2).symm
 have E1 : openS (x :: xs) tms near = if (sgB (x :: xs) tms || isSg x [45, 62]) = true then 2 else if (near && (x.kind == 2 || isSg x [93] || (isSg x [125] && x.opn == 2))) = true then 2 else if (x.kind == 0 || isSg x [41] || endsS x) = true then 1 else if (isSg x [58] && colZ xs) = true then 1 else 3 := by
  unfold openS sgB colZ
  cases xs with
  | nil => simp
  | cons y ys => simp [Bool.and_assoc]
 rw [E1, k2, k0, o2, ← h.ends, ← h.sgOf [45, 62], ← h.sgOf [93], ← h.sgOf [125], ← h.sgOf [41], ← h.sgOf [58]]
 unfold openB begB
 generalize sgB (x :: xs) tms = b1
 generalize (k.kind == 3) = K3
 generalize (k.kind == 2) = K2
 generalize (k.kind == 0) = K0
 generalize (k.opn == 2) = O2
 generalize (k.opn == 1) = O1
 generalize colZ xs = Z
 cases K3 <;> simp [Bool.or_assoc]
theorem openOf_r (h : RSt G w P base S at_ tm en rt tms ops ks s pv tv bv ov) (hks : ks.length ≤ 4000) :
  Calls Tryz.prog 78 #[.pointer (some ⟨P, 0, none⟩)] w fun e w' => e = .returned (.int .i64 (openS rt tms (decide (en = at_)) : Nat)) ∧ Gr w w' := by
 match rt, ks, h.lk, h with
 | [], [], _, h => exact openOf_0 h.sc h.t
 | [x], [k], hl, h =>
  rw [openS_of hl.1]
  exact openOf_1 h.sc h.t (by simp) k 0 rfl rfl rfl
 | x :: y :: ys, k :: ky :: kys, hl, h =>
  rw [openS_of hl.1]
  have hlen : (k :: ky :: kys).reverse.length = kys.length + 2 := by simp
  have e1 : (k :: ky :: kys).reverse[kys.length + 1]? = some k := by simp
  have e2 : (k :: ky :: kys).reverse[kys.length]? = some ky := by simp
  have hz : colZ (y :: ys) = (ky.kind == 0 && begS ys) := by
   show (y.kind == 0 && begS ys) = _
   rw [hl.2.1.kind]
   congr 1
   exact (int_nat y.kind 0).symm
  rw [hz]
  refine openOf_2 h.sc h.t (by rw [hlen]; simp only [List.length_cons] at hks ⊢; omega) k ky kys.length hlen e1 e2 (begS ys) (fun W gW => ?_)
  match ys, kys, hl.2.2, h with
  | [], [], _, h => exact begins_0 W
  | z :: zs, kz :: kzs, hz, h =>
   have e3 : (k :: ky :: kz :: kzs).reverse[kzs.length]? = some kz := by simp
   have hi : kzs.length < (k :: ky :: kz :: kzs).reverse.length := by simp
   have hb := begins_r (h.sc.gr gW) (ownsRow_gr h.t gW) (by rw [hlen]; simp only [List.length_cons] at hks ⊢; omega) kzs.length hi
   rw [show (k :: ky :: kz :: kzs).reverse[kzs.length] = kz by rw [List.getElem?_eq_getElem hi] at e3; exact Option.some.inj e3, hz.1.ends] at hb
   exact hb
end Go.Proofs.YthmopindibdhnaaGreatDoor.G
