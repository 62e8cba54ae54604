/- GBr GSub GBrc -/
import Derived.Test.YthmopindibdhnaaDoorM18
namespace Go.Proofs.YthmopindibdhnaaDoor.G
open Go.RowKit Go.Shelf Go.Maps
variable {w w' : World} {P : Nat} {M : GoMap} {s : ByteArray} {at_ en : Nat} {tm : Bool} {tv bv ov : Value} {toks : List Tok}
def isSgT (t : Tok) (l : List UInt8) : Bool := t.kind == 3 && t.text.data.toList == l
def endsT (t : Tok) : Bool := isSgT t [59] || t.opn == 1
theorem Tok_val (t : Tok) : t.val = .agg #[.int .i64 t.kind, .int .i64 t.place, .string t.text, .string t.repl, .string t.more, .int .i64 t.opn] := rfl
set_option maxRecDepth 100000 in
theorem isSignOf_p (t : Tok) (l : ByteArray) (w : World) : Calls Tryd.prog 27 #[.agg #[.int .i64 t.kind, .int .i64 t.place, .string t.text, .string t.repl, .string t.more, .int .i64 t.opn], .string l] w fun e w' => e = .returned (.bool (isSgT t l.data.toList)) ∧ Gr w w' := by
  have G := Lib.hid ((Gr.refl w).alloc (.cells #[.int .i64 t.kind, .int .i64 t.place, .string t.text, .string t.repl, .string t.more, .int .i64 t.opn] 32))
  cases hk : (t.kind == 3) with
  | false =>
    have E : isSgT t l.data.toList = false := by unfold isSgT; rw [hk]; rfl
    rw [E]; clear E
    go_enter Tryd.func27, Tryd.ntmps27
    go_wp2
    go_ret
    exact ⟨rfl, G.out⟩
  | true =>
    have E : isSgT t l.data.toList = (t.text.toList == l.toList) := by unfold isSgT; rw [hk, ByteArray.toList_eq, ByteArray.toList_eq]; rfl
    rw [E]; clear E
    go_enter Tryd.func27, Tryd.ntmps27
    go_wp2
    go_ret
    exact ⟨rfl, G.out⟩
set_option maxRecDepth 100000 in
theorem ends_p (t : Tok) (w : World) : Calls Tryd.prog 78 #[.agg #[.int .i64 t.kind, .int .i64 t.place, .string t.text, .string t.repl, .string t.more, .int .i64 t.opn]] w fun e w' => e = .returned (.bool (endsT t)) ∧ Gr w w' := by
  have HI := Lib.hid (fun w => isSignOf_p t ⟨#[59]⟩ w)
  rw [show (⟨#[59]⟩ : ByteArray).data.toList = [59] from rfl] at HI
  have G := Lib.hid ((Gr.refl w).alloc (.cells #[.int .i64 t.kind, .int .i64 t.place, .string t.text, .string t.repl, .string t.more, .int .i64 t.opn] 32))
  have K := Lib.hid (heap_alloc_new w (.cells #[.int .i64 t.kind, .int .i64 t.place, .string t.text, .string t.repl, .string t.more, .int .i64 t.opn] 32))
  unfold endsT
  cases hb : isSgT t [59] with
  | true =>
    rw [hb] at HI
    clear hb
    go_enter Tryd.func78, Tryd.ntmps78
    go_wp2_with fail
    refine (HI.out _).mono ?_
    rintro e w2 ⟨rfl, g2⟩
    go_wp2_with fail
    go_ret
    exact ⟨rfl, Gr.trans G.out g2⟩
  | false =>
    rw [hb] at HI
    clear hb
    go_enter Tryd.func78, Tryd.ntmps78
    go_wp2_with fail
    refine (HI.out _).mono ?_
    rintro e w2 ⟨rfl, g2⟩
    have kc := (cellsOf ((g2.block _ (Array.getElem?_eq_some_iff.1 K.out).1).trans K.out)).1 5
    simp at kc
    go_wp2_with fail
    go_ret
    exact ⟨rfl, Gr.trans G.out g2⟩
theorem field0 (k p : Int) (a b c : ByteArray) (o : Int) (w : World) : (Instr.field 32 (.agg #[.int .i64 k, .int .i64 p, .string a, .string b, .string c, .int .i64 o]) 0).run Tryd.prog w = .ok (.int .i64 k) w := by
  first
    | kernel_rfl
    | simp [Instr.field, run_underlying Tryd.underlying32, Result.andThen]
def blockT (toks : List Tok) : Bool :=
  if (isSgT (lastT toks 1) [58] && (lastT toks 2).kind == 0) = true then endsT (lastT toks 3) else ((lastT toks 1).kind == 0 || isSgT (lastT toks 1) [41]) || endsT (lastT toks 1)
set_option maxRecDepth 100000 in
set_option maxHeartbeats 1000000 in
theorem isBlock_g {base : Nat} (h : Sc w P M s at_ en tm tv bv ov) (hO : OwnT w base tv toks) (hl : toks.length ≤ 100000) :
    Calls Tryd.prog 62 #[.pointer (some ⟨P, 0, none⟩)] w fun e w' => e = .returned (.bool (blockT toks)) ∧ Gr w w' := by
  have HL := Lib.hid (fun (W : World) (g : Gr w W) (n : Nat) (h0 : 0 < n) (h3 : n ≤ 3) => last_g (h.gr g) (ownsRow_gr hO g) hl n h0 h3)
  have HI := Lib.hid isSignOf_p
  have HE := Lib.hid ends_p
  have hf0 := field0
  unfold blockT
  obtain ⟨t1, ht1⟩ : ∃ t, t = lastT toks 1 := ⟨_, rfl⟩
  obtain ⟨t2, ht2⟩ : ∃ t, t = lastT toks 2 := ⟨_, rfl⟩
  obtain ⟨t3, ht3⟩ : ∃ t, t = lastT toks 3 := ⟨_, rfl⟩
  have HL1 := Lib.hid (fun (W : World) (g : Gr w W) => HL.out W g 1 (by omega) (by omega))
  have HL2 := Lib.hid (fun (W : World) (g : Gr w W) => HL.out W g 2 (by omega) (by omega))
  have HL3 := Lib.hid (fun (W : World) (g : Gr w W) => HL.out W g 3 (by omega) (by omega))
  rw [← ht1, Tok_val] at HL1
  rw [← ht2, Tok_val] at HL2
  rw [← ht3, Tok_val] at HL3
  rw [show ((1 : Nat) : Int) = 1 from rfl] at HL1
  rw [show ((2 : Nat) : Int) = 2 from rfl] at HL2
  rw [show ((3 : Nat) : Int) = 3 from rfl] at HL3
  rw [← ht1, ← ht2, ← ht3]
  clear h hO hl ht1 ht2 ht3 HL
  have HI58 := Lib.hid (fun w => HI.out t1 ⟨#[58]⟩ w)
  have HI41 := Lib.hid (fun w => HI.out t1 ⟨#[41]⟩ w)
  rw [show (⟨#[58]⟩ : ByteArray).data.toList = [58] from rfl] at HI58
  rw [show (⟨#[41]⟩ : ByteArray).data.toList = [41] from rfl] at HI41
  cases h58 : isSgT t1 [58] with
  | true =>
    rw [h58] at HI58
    cases hk2 : (t2.kind == 0) with
    | true =>
      rw [if_pos (show (true && true) = true from rfl)]
      have HE3 := Lib.hid (fun w => HE.out t3 w)
      generalize endsT t3 = R at *
      clear h58
      go_enter Tryd.func62, Tryd.ntmps62
      go_wp2_with fail
      refine (HL1.out _ (Gr.refl w)).mono ?_
      rintro e w2 ⟨rfl, g2⟩
      have G2 := Lib.hid (g2.alloc (.cells #[.int .i64 t1.kind, .int .i64 t1.place, .string t1.text, .string t1.repl, .string t1.more, .int .i64 t1.opn] 32))
      have K2 := Lib.hid (heap_alloc_new w2 (.cells #[.int .i64 t1.kind, .int .i64 t1.place, .string t1.text, .string t1.repl, .string t1.more, .int .i64 t1.opn] 32))
      clear g2
      go_wp2_with fail
      refine (HI58.out _).mono ?_
      rintro e w3 ⟨rfl, g3⟩
      have G3 := Lib.hid (Gr.trans G2.out g3)
      have K3 := Lib.hid ((g3.block _ (Array.getElem?_eq_some_iff.1 K2.out).1).trans K2.out)
      clear g3 K2
      go_wp2_with fail
      refine (HL2.out _ G3.out).mono ?_
      rintro e w4 ⟨rfl, g4⟩
      have G4 := Lib.hid (Gr.trans G3.out g4)
      have K4 := Lib.hid ((g4.block _ (Array.getElem?_eq_some_iff.1 K3.out).1).trans K3.out)
      clear g4 K3
      go_wp2_with fail
      refine (HL3.out _ G4.out).mono ?_
      rintro e w5 ⟨rfl, g5⟩
      have G5 := Lib.hid (Gr.trans G4.out g5)
      have K5 := Lib.hid ((g5.block _ (Array.getElem?_eq_some_iff.1 K4.out).1).trans K4.out)
      clear g5 K4
      go_wp2_with fail
      refine (HE3.out _).mono ?_
      rintro e w6 ⟨rfl, g6⟩
      go_wp2_with fail
      go_ret
      exact ⟨rfl, Gr.trans G5.out g6⟩
    | false =>
      rw [if_neg (show ¬ (true && false) = true from by decide)]
      clear h58
      cases hk1 : (t1.kind == 0) with
      | true =>
        go_enter Tryd.func62, Tryd.ntmps62
        go_wp2_with fail
        refine (HL1.out _ (Gr.refl w)).mono ?_
        rintro e w2 ⟨rfl, g2⟩
        have G2 := Lib.hid (g2.alloc (.cells #[.int .i64 t1.kind, .int .i64 t1.place, .string t1.text, .string t1.repl, .string t1.more, .int .i64 t1.opn] 32))
        have K2 := Lib.hid (heap_alloc_new w2 (.cells #[.int .i64 t1.kind, .int .i64 t1.place, .string t1.text, .string t1.repl, .string t1.more, .int .i64 t1.opn] 32))
        clear g2
        go_wp2_with fail
        refine (HI58.out _).mono ?_
        rintro e w3 ⟨rfl, g3⟩
        have G3 := Lib.hid (Gr.trans G2.out g3)
        have K3 := Lib.hid ((g3.block _ (Array.getElem?_eq_some_iff.1 K2.out).1).trans K2.out)
        clear g3 K2
        go_wp2_with fail
        refine (HL2.out _ G3.out).mono ?_
        rintro e w4 ⟨rfl, g4⟩
        have G4 := Lib.hid (Gr.trans G3.out g4)
        have K4 := Lib.hid ((g4.block _ (Array.getElem?_eq_some_iff.1 K3.out).1).trans K3.out)
        clear g4 K3
        obtain ⟨kc, _⟩ := cellsOf K4.out
        have k0 := kc 0
        have k1 := kc 1
        have k2 := kc 2
        have k3 := kc 3
        have k4 := kc 4
        have k5 := kc 5
        simp at k0 k1 k2 k3 k4 k5
        clear kc
        go_wp2_with fail
        go_ret
        exact ⟨rfl, G4.out⟩
      | false =>
        cases h41 : isSgT t1 [41] with
        | true =>
          rw [h41] at HI41
          clear h41
          go_enter Tryd.func62, Tryd.ntmps62
          go_wp2_with fail
          refine (HL1.out _ (Gr.refl w)).mono ?_
          rintro e w2 ⟨rfl, g2⟩
          have G2 := Lib.hid (g2.alloc (.cells #[.int .i64 t1.kind, .int .i64 t1.place, .string t1.text, .string t1.repl, .string t1.more, .int .i64 t1.opn] 32))
          have K2 := Lib.hid (heap_alloc_new w2 (.cells #[.int .i64 t1.kind, .int .i64 t1.place, .string t1.text, .string t1.repl, .string t1.more, .int .i64 t1.opn] 32))
          clear g2
          go_wp2_with fail
          refine (HI58.out _).mono ?_
          rintro e w3 ⟨rfl, g3⟩
          have G3 := Lib.hid (Gr.trans G2.out g3)
          have K3 := Lib.hid ((g3.block _ (Array.getElem?_eq_some_iff.1 K2.out).1).trans K2.out)
          clear g3 K2
          go_wp2_with fail
          refine (HL2.out _ G3.out).mono ?_
          rintro e w4 ⟨rfl, g4⟩
          have G4 := Lib.hid (Gr.trans G3.out g4)
          have K4 := Lib.hid ((g4.block _ (Array.getElem?_eq_some_iff.1 K3.out).1).trans K3.out)
          clear g4 K3
          obtain ⟨kc, _⟩ := cellsOf K4.out
          have k0 := kc 0
          have k1 := kc 1
          have k2 := kc 2
          have k3 := kc 3
          have k4 := kc 4
          have k5 := kc 5
          simp at k0 k1 k2 k3 k4 k5
          clear kc
          go_wp2_with fail
          refine (HI41.out _).mono ?_
          rintro e w5 ⟨rfl, g5⟩
          have G5 := Lib.hid (Gr.trans G4.out g5)
          have K5 := Lib.hid ((g5.block _ (Array.getElem?_eq_some_iff.1 K4.out).1).trans K4.out)
          clear g5 K4
          go_wp2_with fail
          go_ret
          exact ⟨rfl, G5.out⟩
        | false =>
          rw [h41] at HI41
          have HE1 := Lib.hid (fun w => HE.out t1 w)
          generalize endsT t1 = R at *
          clear h41
          go_enter Tryd.func62, Tryd.ntmps62
          go_wp2_with fail
          refine (HL1.out _ (Gr.refl w)).mono ?_
          rintro e w2 ⟨rfl, g2⟩
          have G2 := Lib.hid (g2.alloc (.cells #[.int .i64 t1.kind, .int .i64 t1.place, .string t1.text, .string t1.repl, .string t1.more, .int .i64 t1.opn] 32))
          have K2 := Lib.hid (heap_alloc_new w2 (.cells #[.int .i64 t1.kind, .int .i64 t1.place, .string t1.text, .string t1.repl, .string t1.more, .int .i64 t1.opn] 32))
          clear g2
          go_wp2_with fail
          refine (HI58.out _).mono ?_
          rintro e w3 ⟨rfl, g3⟩
          have G3 := Lib.hid (Gr.trans G2.out g3)
          have K3 := Lib.hid ((g3.block _ (Array.getElem?_eq_some_iff.1 K2.out).1).trans K2.out)
          clear g3 K2
          go_wp2_with fail
          refine (HL2.out _ G3.out).mono ?_
          rintro e w4 ⟨rfl, g4⟩
          have G4 := Lib.hid (Gr.trans G3.out g4)
          have K4 := Lib.hid ((g4.block _ (Array.getElem?_eq_some_iff.1 K3.out).1).trans K3.out)
          clear g4 K3
          obtain ⟨kc, _⟩ := cellsOf K4.out
          have k0 := kc 0
          have k1 := kc 1
          have k2 := kc 2
          have k3 := kc 3
          have k4 := kc 4
          have k5 := kc 5
          simp at k0 k1 k2 k3 k4 k5
          clear kc
          go_wp2_with fail
          refine (HI41.out _).mono ?_
          rintro e w5 ⟨rfl, g5⟩
          have G5 := Lib.hid (Gr.trans G4.out g5)
          have K5 := Lib.hid ((g5.block _ (Array.getElem?_eq_some_iff.1 K4.out).1).trans K4.out)
          clear g5 K4
          clear k0 k1 k2 k3 k4 k5
          obtain ⟨kc, _⟩ := cellsOf K5.out
          have k0 := kc 0
          have k1 := kc 1
          have k2 := kc 2
          have k3 := kc 3
          have k4 := kc 4
          have k5 := kc 5
          simp at k0 k1 k2 k3 k4 k5
          clear kc
          go_wp2_with fail
          refine (HE1.out _).mono ?_
          rintro e w6 ⟨rfl, g6⟩
          have G6 := Lib.hid (Gr.trans G5.out g6)
          have K6 := Lib.hid ((g6.block _ (Array.getElem?_eq_some_iff.1 K5.out).1).trans K5.out)
          clear g6 K5
          go_wp2_with fail
          go_ret
          exact ⟨by first | rfl | simp, G6.out⟩
  | false =>
    rw [h58] at HI58
    rw [if_neg (show ¬ (false && (t2.kind == 0)) = true from by simp)]
    clear h58
    cases hk1 : (t1.kind == 0) with
    | true =>
      go_enter Tryd.func62, Tryd.ntmps62
      go_wp2_with fail
      refine (HL1.out _ (Gr.refl w)).mono ?_
      rintro e w2 ⟨rfl, g2⟩
      have G2 := Lib.hid (g2.alloc (.cells #[.int .i64 t1.kind, .int .i64 t1.place, .string t1.text, .string t1.repl, .string t1.more, .int .i64 t1.opn] 32))
      have K2 := Lib.hid (heap_alloc_new w2 (.cells #[.int .i64 t1.kind, .int .i64 t1.place, .string t1.text, .string t1.repl, .string t1.more, .int .i64 t1.opn] 32))
      clear g2
      go_wp2_with fail
      refine (HI58.out _).mono ?_
      rintro e w3 ⟨rfl, g3⟩
      have G3 := Lib.hid (Gr.trans G2.out g3)
      have K3 := Lib.hid ((g3.block _ (Array.getElem?_eq_some_iff.1 K2.out).1).trans K2.out)
      clear g3 K2
      obtain ⟨kc, _⟩ := cellsOf K3.out
      have k0 := kc 0
      have k1 := kc 1
      have k2 := kc 2
      have k3 := kc 3
      have k4 := kc 4
      have k5 := kc 5
      simp at k0 k1 k2 k3 k4 k5
      clear kc
      go_wp2_with fail
      go_ret
      exact ⟨rfl, G3.out⟩
    | false =>
      cases h41 : isSgT t1 [41] with
      | true =>
        rw [h41] at HI41
        clear h41
        go_enter Tryd.func62, Tryd.ntmps62
        go_wp2_with fail
        refine (HL1.out _ (Gr.refl w)).mono ?_
        rintro e w2 ⟨rfl, g2⟩
        have G2 := Lib.hid (g2.alloc (.cells #[.int .i64 t1.kind, .int .i64 t1.place, .string t1.text, .string t1.repl, .string t1.more, .int .i64 t1.opn] 32))
        have K2 := Lib.hid (heap_alloc_new w2 (.cells #[.int .i64 t1.kind, .int .i64 t1.place, .string t1.text, .string t1.repl, .string t1.more, .int .i64 t1.opn] 32))
        clear g2
        go_wp2_with fail
        refine (HI58.out _).mono ?_
        rintro e w3 ⟨rfl, g3⟩
        have G3 := Lib.hid (Gr.trans G2.out g3)
        have K3 := Lib.hid ((g3.block _ (Array.getElem?_eq_some_iff.1 K2.out).1).trans K2.out)
        clear g3 K2
        obtain ⟨kc, _⟩ := cellsOf K3.out
        have k0 := kc 0
        have k1 := kc 1
        have k2 := kc 2
        have k3 := kc 3
        have k4 := kc 4
        have k5 := kc 5
        simp at k0 k1 k2 k3 k4 k5
        clear kc
        go_wp2_with fail
        refine (HI41.out _).mono ?_
        rintro e w4 ⟨rfl, g4⟩
        have G4 := Lib.hid (Gr.trans G3.out g4)
        have K4 := Lib.hid ((g4.block _ (Array.getElem?_eq_some_iff.1 K3.out).1).trans K3.out)
        clear g4 K3
        go_wp2_with fail
        go_ret
        exact ⟨rfl, G4.out⟩
      | false =>
        rw [h41] at HI41
        have HE1 := Lib.hid (fun w => HE.out t1 w)
        generalize endsT t1 = R at *
        clear h41
        go_enter Tryd.func62, Tryd.ntmps62
        go_wp2_with fail
        refine (HL1.out _ (Gr.refl w)).mono ?_
        rintro e w2 ⟨rfl, g2⟩
        have G2 := Lib.hid (g2.alloc (.cells #[.int .i64 t1.kind, .int .i64 t1.place, .string t1.text, .string t1.repl, .string t1.more, .int .i64 t1.opn] 32))
        have K2 := Lib.hid (heap_alloc_new w2 (.cells #[.int .i64 t1.kind, .int .i64 t1.place, .string t1.text, .string t1.repl, .string t1.more, .int .i64 t1.opn] 32))
        clear g2
        go_wp2_with fail
        refine (HI58.out _).mono ?_
        rintro e w3 ⟨rfl, g3⟩
        have G3 := Lib.hid (Gr.trans G2.out g3)
        have K3 := Lib.hid ((g3.block _ (Array.getElem?_eq_some_iff.1 K2.out).1).trans K2.out)
        clear g3 K2
        obtain ⟨kc, _⟩ := cellsOf K3.out
        have k0 := kc 0
        have k1 := kc 1
        have k2 := kc 2
        have k3 := kc 3
        have k4 := kc 4
        have k5 := kc 5
        simp at k0 k1 k2 k3 k4 k5
        clear kc
        go_wp2_with fail
        refine (HI41.out _).mono ?_
        rintro e w4 ⟨rfl, g4⟩
        have G4 := Lib.hid (Gr.trans G3.out g4)
        have K4 := Lib.hid ((g4.block _ (Array.getElem?_eq_some_iff.1 K3.out).1).trans K3.out)
        clear g4 K3
        clear k0 k1 k2 k3 k4 k5
        obtain ⟨kc, _⟩ := cellsOf K4.out
        have k0 := kc 0
        have k1 := kc 1
        have k2 := kc 2
        have k3 := kc 3
        have k4 := kc 4
        have k5 := kc 5
        simp at k0 k1 k2 k3 k4 k5
        clear kc
        go_wp2_with fail
        refine (HE1.out _).mono ?_
        rintro e w5 ⟨rfl, g5⟩
        have G5 := Lib.hid (Gr.trans G4.out g5)
        have K5 := Lib.hid ((g5.block _ (Array.getElem?_eq_some_iff.1 K4.out).1).trans K4.out)
        clear g5 K4
        go_wp2_with fail
        go_ret
        exact ⟨by first | rfl | simp, G5.out⟩
end Go.Proofs.YthmopindibdhnaaDoor.G
namespace Go.Proofs.YthmopindibdhnaaDoor.G
open Go.RowKit Go.Shelf Go.Maps
variable {w w' : World} {P : Nat} {M : GoMap} {s : ByteArray} {at_ en : Nat} {tm : Bool} {tv bv ov : Value} {toks : List Tok} {terms : List Bool}
def subB (l : List UInt8) (o : Int) (lt direct : Bool) : Bool :=
  if l = [45, 62] then true else if l = [36] then true else if l = [64] then true else if l = [37] then lt else if l = [38] then lt else if l = [93] then direct else if l = [125] then direct && o == 2 else false
def subT (x : Tok) (lt direct : Bool) : Bool := if x.kind = 2 then direct else if x.kind = 3 then subB x.text.data.toList x.opn lt direct else false
theorem bool_at {base : Nat} (h : OwnB w base bv terms) (hne : terms ≠ []) : ∃ g cap, bv = .slice (some ⟨g, 0, none⟩) terms.length cap ∧ g < w.heap.size ∧ w.cell? ⟨g, terms.length - 1, none⟩ = some (.bool (terms.getLast hne)) := by
  have h0 : 0 < terms.length := List.length_pos_iff.2 hne
  obtain ⟨g, cap, h1, h2, h3, _, h5⟩ := own_cell h (by omega)
  refine ⟨g, cap, h1, h3, h5 _ _ ?_⟩
  rw [List.getElem?_map, List.getLast_eq_getElem, List.getElem?_eq_getElem (by omega)]
  rfl
set_option maxRecDepth 100000 in
set_option maxHeartbeats 1000000 in
theorem isSub_g {base : Nat} (h : Sc w P M s at_ en tm tv bv ov) (hO : OwnT w base tv toks) (hB : OwnB w base bv terms) (hlen : terms.length = toks.length) (hl : toks.length ≤ 100000) (lt : Bool) (hlt : ∀ hne : terms ≠ [], lt = terms.getLast hne) (direct : Bool) :
    Calls Tryd.prog 61 #[.pointer (some ⟨P, 0, none⟩), .bool direct] w fun e w' => e = .returned (.bool (subT (lastT toks 1) lt direct)) ∧ Gr w w' := by
  have H := Lib.hid h
  have HL := Lib.hid (fun (W : World) (g : Gr w W) => last_g (h.gr g) (ownsRow_gr hO g) hl 1 (by omega) (by omega))
  have HT : toks = [] → (lastT toks 1).text.data.toList = [59] := fun e => by subst e; rfl
  obtain ⟨t1, ht1⟩ : ∃ t, t = lastT toks 1 := ⟨_, rfl⟩
  rw [← ht1, Tok_val, show ((1 : Nat) : Int) = 1 from rfl] at HL
  rw [← ht1] at HT ⊢
  have hP : P < w.heap.size := h.lt.1
  unfold subT
  by_cases hk2 : t1.kind = 2
  · have k2 : (t1.kind == 2) = true := by simpa using hk2
    rw [if_pos hk2]
    clear h hO hB hlt ht1 HT hk2
    go_enter Tryd.func61, Tryd.ntmps61
    go_wp2_with fail
    refine (HL.out _ (Gr.refl w)).mono ?_
    rintro e w2 ⟨rfl, g2⟩
    have G2 := Lib.hid (g2.alloc (.cells #[.int .i64 t1.kind, .int .i64 t1.place, .string t1.text, .string t1.repl, .string t1.more, .int .i64 t1.opn] 32))
    clear g2
    go_wp2_with fail
    go_ret
    exact ⟨rfl, G2.out⟩
  · have k2 : (t1.kind == 2) = false := by simpa using hk2
    rw [if_neg hk2]
    by_cases hk3 : t1.kind = 3
    · have k3 : (t1.kind != 3) = false := by simp [hk3]
      rw [if_pos hk3]
      generalize hx : t1.text.data.toList = x at *
      have hxt : t1.text.toList = x := by rw [ByteArray.toList_eq]; exact hx
      clear hk2 hk3 ht1 hx
      unfold subB
      by_cases h0 : x = [45, 62]
      · rw [if_pos h0]
        have f0 : (t1.text.toList == [45, 62]) = true := by rw [hxt, h0]; rfl
        clear h hO hB hlt HT hlen hxt h0
        go_enter Tryd.func61, Tryd.ntmps61
        go_wp2_with fail
        refine (HL.out _ (Gr.refl w)).mono ?_
        rintro e w2 ⟨rfl, g2⟩
        have G2 := Lib.hid (g2.alloc (.cells #[.int .i64 t1.kind, .int .i64 t1.place, .string t1.text, .string t1.repl, .string t1.more, .int .i64 t1.opn] 32))
        clear g2
        go_wp2_with fail
        go_ret
        exact ⟨rfl, G2.out⟩
      rw [if_neg h0]
      by_cases h1 : x = [36]
      · rw [if_pos h1]
        have f0 : (t1.text.toList == [45, 62]) = false := by rw [hxt]; simpa using h0
        have f1 : (t1.text.toList == [36]) = true := by rw [hxt, h1]; rfl
        clear h hO hB hlt HT hlen hxt h0 h1
        go_enter Tryd.func61, Tryd.ntmps61
        go_wp2_with fail
        refine (HL.out _ (Gr.refl w)).mono ?_
        rintro e w2 ⟨rfl, g2⟩
        have G2 := Lib.hid (g2.alloc (.cells #[.int .i64 t1.kind, .int .i64 t1.place, .string t1.text, .string t1.repl, .string t1.more, .int .i64 t1.opn] 32))
        clear g2
        go_wp2_with fail
        go_ret
        exact ⟨rfl, G2.out⟩
      rw [if_neg h1]
      by_cases h2 : x = [64]
      · rw [if_pos h2]
        have f0 : (t1.text.toList == [45, 62]) = false := by rw [hxt]; simpa using h0
        have f1 : (t1.text.toList == [36]) = false := by rw [hxt]; simpa using h1
        have f2 : (t1.text.toList == [64]) = true := by rw [hxt, h2]; rfl
        clear h hO hB hlt HT hlen hxt h0 h1 h2
        go_enter Tryd.func61, Tryd.ntmps61
        go_wp2_with fail
        refine (HL.out _ (Gr.refl w)).mono ?_
        rintro e w2 ⟨rfl, g2⟩
        have G2 := Lib.hid (g2.alloc (.cells #[.int .i64 t1.kind, .int .i64 t1.place, .string t1.text, .string t1.repl, .string t1.more, .int .i64 t1.opn] 32))
        clear g2
        go_wp2_with fail
        go_ret
        exact ⟨rfl, G2.out⟩
      rw [if_neg h2]
      by_cases h3 : x = [37]
      · rw [if_pos h3]
        have f0 : (t1.text.toList == [45, 62]) = false := by rw [hxt]; simpa using h0
        have f1 : (t1.text.toList == [36]) = false := by rw [hxt]; simpa using h1
        have f2 : (t1.text.toList == [64]) = false := by rw [hxt]; simpa using h2
        have f3 : (t1.text.toList == [37]) = true := by rw [hxt, h3]; rfl
        have hne : terms ≠ [] := fun e => by
          rw [e] at hlen
          have := HT (List.length_eq_zero_iff.1 hlen.symm)
          rw [h3] at this
          exact absurd this (by decide)
        obtain ⟨g, cap, rfl, hgs, hc⟩ := bool_at hB hne
        rw [← hlt hne] at hc
        have hn0 : 0 < terms.length := List.length_pos_iff.2 hne
        obtain ⟨n1, hn1⟩ : ∃ n1, n1 = terms.length - 1 := ⟨_, rfl⟩
        have hn1' : (terms.length : Int) - 1 = (n1 : Int) := by omega
        have hw1 : IntKind.i64.wrap (n1 : Int) = (n1 : Int) := by rw [IntKind.wrap_i64]; omega
        have hi1 : (n1 : Int) < (terms.length : Int) := by omega
        rw [← hn1] at hc
        have HC := Lib.hid hc
        have Hgs := Lib.hid hgs
        clear h hO hB hlt HT hlen hxt hn1 hc hgs hne hn0 h0 h1 h2 h3
        go_enter Tryd.func61, Tryd.ntmps61
        go_wp2_with fail
        refine (HL.out _ (Gr.refl w)).mono ?_
        rintro e w2 ⟨rfl, g2⟩
        have G2 := Lib.hid (g2.alloc (.cells #[.int .i64 t1.kind, .int .i64 t1.place, .string t1.text, .string t1.repl, .string t1.more, .int .i64 t1.opn] 32))
        clear g2
        obtain ⟨c0, c1, c2, c3, c4, c5, c6, c7, cf⟩ := (H.out.gr G2.out).cells
        have hc := (cell_gr (j := n1) G2.out Hgs.out).trans HC.out
        go_wp2_with fail
        go_quiet (fail)
        go_wp2_with fail
        go_ret
        exact ⟨rfl, G2.out.drewN _⟩
      rw [if_neg h3]
      by_cases h4 : x = [38]
      · rw [if_pos h4]
        have f0 : (t1.text.toList == [45, 62]) = false := by rw [hxt]; simpa using h0
        have f1 : (t1.text.toList == [36]) = false := by rw [hxt]; simpa using h1
        have f2 : (t1.text.toList == [64]) = false := by rw [hxt]; simpa using h2
        have f3 : (t1.text.toList == [37]) = false := by rw [hxt]; simpa using h3
        have f4 : (t1.text.toList == [38]) = true := by rw [hxt, h4]; rfl
        have hne : terms ≠ [] := fun e => by
          rw [e] at hlen
          have := HT (List.length_eq_zero_iff.1 hlen.symm)
          rw [h4] at this
          exact absurd this (by decide)
        obtain ⟨g, cap, rfl, hgs, hc⟩ := bool_at hB hne
        rw [← hlt hne] at hc
        have hn0 : 0 < terms.length := List.length_pos_iff.2 hne
        obtain ⟨n1, hn1⟩ : ∃ n1, n1 = terms.length - 1 := ⟨_, rfl⟩
        have hn1' : (terms.length : Int) - 1 = (n1 : Int) := by omega
        have hw1 : IntKind.i64.wrap (n1 : Int) = (n1 : Int) := by rw [IntKind.wrap_i64]; omega
        have hi1 : (n1 : Int) < (terms.length : Int) := by omega
        rw [← hn1] at hc
        have HC := Lib.hid hc
        have Hgs := Lib.hid hgs
        clear h hO hB hlt HT hlen hxt hn1 hc hgs hne hn0 h0 h1 h2 h3 h4
        go_enter Tryd.func61, Tryd.ntmps61
        go_wp2_with fail
        refine (HL.out _ (Gr.refl w)).mono ?_
        rintro e w2 ⟨rfl, g2⟩
        have G2 := Lib.hid (g2.alloc (.cells #[.int .i64 t1.kind, .int .i64 t1.place, .string t1.text, .string t1.repl, .string t1.more, .int .i64 t1.opn] 32))
        clear g2
        obtain ⟨c0, c1, c2, c3, c4, c5, c6, c7, cf⟩ := (H.out.gr G2.out).cells
        have hc := (cell_gr (j := n1) G2.out Hgs.out).trans HC.out
        go_wp2_with fail
        go_quiet (fail)
        go_wp2_with fail
        go_ret
        exact ⟨rfl, G2.out.drewN _⟩
      rw [if_neg h4]
      by_cases h5 : x = [93]
      · rw [if_pos h5]
        have f0 : (t1.text.toList == [45, 62]) = false := by rw [hxt]; simpa using h0
        have f1 : (t1.text.toList == [36]) = false := by rw [hxt]; simpa using h1
        have f2 : (t1.text.toList == [64]) = false := by rw [hxt]; simpa using h2
        have f3 : (t1.text.toList == [37]) = false := by rw [hxt]; simpa using h3
        have f4 : (t1.text.toList == [38]) = false := by rw [hxt]; simpa using h4
        have f5 : (t1.text.toList == [93]) = true := by rw [hxt, h5]; rfl
        clear h hO hB hlt HT hlen hxt h0 h1 h2 h3 h4 h5
        go_enter Tryd.func61, Tryd.ntmps61
        go_wp2_with fail
        refine (HL.out _ (Gr.refl w)).mono ?_
        rintro e w2 ⟨rfl, g2⟩
        have G2 := Lib.hid (g2.alloc (.cells #[.int .i64 t1.kind, .int .i64 t1.place, .string t1.text, .string t1.repl, .string t1.more, .int .i64 t1.opn] 32))
        clear g2
        go_wp2_with fail
        go_ret
        exact ⟨rfl, G2.out⟩
      rw [if_neg h5]
      by_cases h6 : x = [125]
      · rw [if_pos h6]
        have f0 : (t1.text.toList == [45, 62]) = false := by rw [hxt]; simpa using h0
        have f1 : (t1.text.toList == [36]) = false := by rw [hxt]; simpa using h1
        have f2 : (t1.text.toList == [64]) = false := by rw [hxt]; simpa using h2
        have f3 : (t1.text.toList == [37]) = false := by rw [hxt]; simpa using h3
        have f4 : (t1.text.toList == [38]) = false := by rw [hxt]; simpa using h4
        have f5 : (t1.text.toList == [93]) = false := by rw [hxt]; simpa using h5
        have f6 : (t1.text.toList == [125]) = true := by rw [hxt, h6]; rfl
        clear h hO hB hlt HT hlen hxt h0 h1 h2 h3 h4 h5 h6
        cases direct
        · go_enter Tryd.func61, Tryd.ntmps61
          go_wp2_with fail
          refine (HL.out _ (Gr.refl w)).mono ?_
          rintro e w2 ⟨rfl, g2⟩
          have G2 := Lib.hid (g2.alloc (.cells #[.int .i64 t1.kind, .int .i64 t1.place, .string t1.text, .string t1.repl, .string t1.more, .int .i64 t1.opn] 32))
          clear g2
          go_wp2_with fail
          go_ret
          exact ⟨by first | rfl | simp, G2.out⟩
        · go_enter Tryd.func61, Tryd.ntmps61
          go_wp2_with fail
          refine (HL.out _ (Gr.refl w)).mono ?_
          rintro e w2 ⟨rfl, g2⟩
          have G2 := Lib.hid (g2.alloc (.cells #[.int .i64 t1.kind, .int .i64 t1.place, .string t1.text, .string t1.repl, .string t1.more, .int .i64 t1.opn] 32))
          clear g2
          go_wp2_with fail
          go_ret
          exact ⟨by first | rfl | simp, G2.out⟩
      rw [if_neg h6]
      have f0 : (t1.text.toList == [45, 62]) = false := by rw [hxt]; simpa using h0
      have f1 : (t1.text.toList == [36]) = false := by rw [hxt]; simpa using h1
      have f2 : (t1.text.toList == [64]) = false := by rw [hxt]; simpa using h2
      have f3 : (t1.text.toList == [37]) = false := by rw [hxt]; simpa using h3
      have f4 : (t1.text.toList == [38]) = false := by rw [hxt]; simpa using h4
      have f5 : (t1.text.toList == [93]) = false := by rw [hxt]; simpa using h5
      have f6 : (t1.text.toList == [125]) = false := by rw [hxt]; simpa using h6
      clear h hO hB hlt HT hlen hxt h0 h1 h2 h3 h4 h5 h6
      go_enter Tryd.func61, Tryd.ntmps61
      go_wp2_with fail
      refine (HL.out _ (Gr.refl w)).mono ?_
      rintro e w2 ⟨rfl, g2⟩
      have G2 := Lib.hid (g2.alloc (.cells #[.int .i64 t1.kind, .int .i64 t1.place, .string t1.text, .string t1.repl, .string t1.more, .int .i64 t1.opn] 32))
      clear g2
      go_wp2_with fail
      go_ret
      exact ⟨rfl, G2.out⟩
    · have k3 : (t1.kind != 3) = true := by simpa using hk3
      rw [if_neg hk3]
      clear h hO hB hlt ht1 HT hk2 hk3
      go_enter Tryd.func61, Tryd.ntmps61
      go_wp2_with fail
      refine (HL.out _ (Gr.refl w)).mono ?_
      rintro e w2 ⟨rfl, g2⟩
      have G2 := Lib.hid (g2.alloc (.cells #[.int .i64 t1.kind, .int .i64 t1.place, .string t1.text, .string t1.repl, .string t1.more, .int .i64 t1.opn] 32))
      clear g2
      go_wp2_with fail
      go_ret
      exact ⟨rfl, G2.out⟩
end Go.Proofs.YthmopindibdhnaaDoor.G
namespace Go.Proofs.YthmopindibdhnaaDoor.G
open Go.RowKit Go.Shelf Go.Maps
variable {w w' : World} {P : Nat} {M : GoMap} {s : ByteArray} {at_ en : Nat} {tm : Bool} {tv bv ov : Value} {toks : List Tok} {terms : List Bool} {ops : List Nat}
abbrev OwnI (w : World) (base : Nat) (v : Value) (l : List Nat) : Prop := w.ownsRow base 3 1 v l.length (l.map fun (x : Nat) => Value.int .i64 (x : Int))
def openT (toks : List Tok) (lt direct : Bool) : Nat := if subT (lastT toks 1) lt direct = true then 2 else if blockT toks = true then 1 else 3
set_option maxRecDepth 100000 in
theorem opened_g {base : Nat} (h : Sc w P M s at_ en tm tv bv ov) (hO : OwnT w base tv toks) (hB : OwnB w base bv terms) (hlen : terms.length = toks.length) (hl : toks.length ≤ 100000) (lt : Bool) (hlt : ∀ hne : terms ≠ [], lt = terms.getLast hne) (direct : Bool) :
    Calls Tryd.prog 47 #[.pointer (some ⟨P, 0, none⟩), .bool direct] w fun e w' => e = .returned (.int .i64 (openT toks lt direct : Nat)) ∧ Gr w w' := by
  have HS := Lib.hid (fun (W : World) (g : Gr w W) => isSub_g (h.gr g) (ownsRow_gr hO g) (ownsRow_gr hB g) hlen hl lt hlt direct)
  have HK := Lib.hid (fun (W : World) (g : Gr w W) => isBlock_g (h.gr g) (ownsRow_gr hO g) hl)
  unfold openT
  clear h hO hB hlen hl hlt
  cases hs : subT (lastT toks 1) lt direct with
  | true =>
    rw [hs] at HS
    rw [if_pos rfl]
    clear hs
    go_enter Tryd.func47, Tryd.ntmps47
    go_wp2_with fail
    refine (HS.out _ (Gr.refl w)).mono ?_
    rintro e w2 ⟨rfl, g2⟩
    go_wp2_with fail
    go_ret
    exact ⟨rfl, g2⟩
  | false =>
    rw [hs] at HS
    rw [if_neg (show ¬ false = true from by decide)]
    cases hk : blockT toks with
    | true =>
      rw [hk] at HK
      rw [if_pos rfl]
      clear hs hk
      go_enter Tryd.func47, Tryd.ntmps47
      go_wp2_with fail
      refine (HS.out _ (Gr.refl w)).mono ?_
      rintro e w2 ⟨rfl, g2⟩
      have G2 := Lib.hid g2
      clear g2
      go_wp2_with fail
      refine (HK.out _ G2.out).mono ?_
      rintro e w3 ⟨rfl, g3⟩
      go_wp2_with fail
      go_ret
      exact ⟨rfl, Gr.trans G2.out g3⟩
    | false =>
      rw [hk] at HK
      rw [if_neg (show ¬ false = true from by decide)]
      clear hs hk
      go_enter Tryd.func47, Tryd.ntmps47
      go_wp2_with fail
      refine (HS.out _ (Gr.refl w)).mono ?_
      rintro e w2 ⟨rfl, g2⟩
      have G2 := Lib.hid g2
      clear g2
      go_wp2_with fail
      refine (HK.out _ G2.out).mono ?_
      rintro e w3 ⟨rfl, g3⟩
      go_wp2_with fail
      go_ret
      exact ⟨rfl, Gr.trans G2.out g3⟩
theorem own_init {base : Nat} {n cap g : Nat} {l : List Nat} {x : Nat} (h : OwnI w base (.slice (some ⟨g, 0, none⟩) n cap) (l ++ [x])) : OwnI w base (.slice (some ⟨g, 0, none⟩) l.length cap) l := by
  obtain ⟨h1, h2⟩ := h
  refine ⟨by simp, ?_⟩
  rcases h2 with ⟨h2, _⟩ | ⟨g2, cap2, cur, e1, e2, e3, e4, e5, e6, e7⟩
  · cases h2
  · cases e1
    refine .inr ⟨g, cap, cur, rfl, e2, e3, by simp at e4; omega, e5, e6, ?_⟩
    have := congrArg (List.take l.length) e7
    rw [List.take_take] at this
    simp at this
    simpa using this
theorem int_at {base : Nat} {l : List Nat} {x : Nat} (h : OwnI w base ov (l ++ [x])) : ∃ g cap, ov = .slice (some ⟨g, 0, none⟩) (l.length + 1) cap ∧ g < w.heap.size ∧ base ≤ g ∧ l.length ≤ cap ∧ w.cell? ⟨g, l.length, none⟩ = some (.int .i64 (x : Int)) := by
  obtain ⟨g, cap, h1, h2, h3, h4, h5⟩ := own_cell h (by simp)
  refine ⟨g, cap, by rw [h1]; simp, h3, h2, by simp at h4; omega, h5 _ _ ?_⟩
  simp
set_option maxRecDepth 100000 in
set_option maxHeartbeats 1000000 in
theorem closed_none {base : Nat} (h : Sc w P M s at_ en tm tv bv ov) (hI : OwnI w base ov []) :
    Calls Tryd.prog 48 #[.pointer (some ⟨P, 0, none⟩)] w fun e w' => e = .returned (.int .i64 1) ∧ Gr w w' := by
  obtain ⟨c0, c1, c2, c3, c4, c5, c6, c7, cf⟩ := h.cells
  obtain ⟨ao, cap, rfl⟩ := ownsRow_shape hI
  rw [show (List.length ([] : List Nat)) = 0 from rfl] at c6
  clear h hI
  go_enter Tryd.func48, Tryd.ntmps48
  go_wp2_with fail
  go_ret
  exact ⟨rfl, Gr.refl w⟩
set_option maxRecDepth 100000 in
set_option maxHeartbeats 1000000 in
theorem closed_some {base : Nat} {l : List Nat} {x : Nat} (h : Sc w P M s at_ en tm tv bv ov) (hI : OwnI w base ov (l ++ [x])) (hP : P < base) (hl : l.length ≤ 100000) :
    Calls Tryd.prog 48 #[.pointer (some ⟨P, 0, none⟩)] w fun e w' => e = .returned (.int .i64 x) ∧ But P w w' ∧ ∃ ov', Sc w' P M s at_ en tm tv bv ov' ∧ OwnI w' base ov' l := by
  have HI := Lib.hid hI
  have H := Lib.hid h
  obtain ⟨g, cap, rfl, hg, hbg, hcap, hc⟩ := int_at hI
  obtain ⟨c0, c1, c2, c3, c4, c5, c6, c7, cf⟩ := h.cells
  generalize hn : l.length = n at *
  have n0 : ((((n + 1 : Nat)) : Int) == 0) = false := by simp; omega
  have n1 : ((n + 1 : Nat) : Int) - 1 = (n : Int) := by omega
  have n2 : (n : Int) < ((n + 1 : Nat) : Int) := by omega
  have n3 : (n : Int) ≤ (cap : Int) := by omega
  have n4 : IntKind.i64.wrap (n : Int) = (n : Int) := by rw [IntKind.wrap_i64]; omega
  obtain ⟨m, hm⟩ : ∃ m, m = n + 1 := ⟨_, rfl⟩
  rw [← hm] at c6 n0 n1 n2 HI H
  have Hn := Lib.hid hn
  have n5 : n < m := by omega
  clear h hI hn hm hg hl
  go_enter Tryd.func48, Tryd.ntmps48
  go_wp2_with fail
  go_ret
  have hh := own_init HI.out
  rw [Hn.out] at hh
  exact ⟨rfl, But.set 6 _, _, H.out.setOv _, own_set (by rw [← Hn.out] at hh ⊢; exact hh) (fun e => by have := Option.some.inj (show some P = some g from e); omega) 6 _⟩
theorem But.fr {base : Nat} (h : But P w w') (hb : base ≤ w.heap.size) : Fr P base w w' := Fr.of_but h hb
/-- the scanner with all its rows -/
structure Rows3 (w : World) (base : Nat) (tv bv ov : Value) (toks : List Tok) (terms : List Bool) (ops : List Nat) : Prop where
  t : OwnT w base tv toks
  b : OwnB w base bv terms
  o : OwnI w base ov ops
theorem Rows3.gr {base : Nat} (h : Rows3 w base tv bv ov toks terms ops) (g : Gr w w') : Rows3 w' base tv bv ov toks terms ops := ⟨ownsRow_gr h.t g, ownsRow_gr h.b g, ownsRow_gr h.o g⟩
theorem Rows3.but {base : Nat} (h : Rows3 w base tv bv ov toks terms ops) (k : But P w w') (hP : P < base) : Rows3 w' base tv bv ov toks terms ops := ⟨own_but h.t k hP, own_but h.b k hP, own_but h.o k hP⟩
theorem own_bt {A B base : Nat} {e : TypeId} {size : Nat} {v : Value} {n : Nat} {xs : List Value} (h : w.ownsRow base e size v n xs) (k : Bt A B w w') (hA : A < base) (hB : B < base) : w'.ownsRow base e size v n xs := by
  obtain ⟨a1, a2⟩ := h
  refine ⟨a1, ?_⟩
  rcases a2 with a2 | ⟨g, cap, cur, e1, e3, e4, e5⟩
  · exact .inl a2
  · refine .inr ⟨g, cap, cur, e1, e3, ?_, e5⟩
    rw [k.block _ (Array.getElem?_eq_some_iff.1 e4).1 (by omega) (by omega)]; exact e4
theorem Rows3.bt {A B base : Nat} (h : Rows3 w base tv bv ov toks terms ops) (k : Bt A B w w') (hA : A < base) (hB : B < base) : Rows3 w' base tv bv ov toks terms ops := ⟨own_bt h.t k hA hB, own_bt h.b k hA hB, own_bt h.o k hA hB⟩
theorem own_ty {w : World} {base : Nat} {e : TypeId} {size : Nat} {v : Value} {n : Nat} {xs : List Value} (h : w.ownsRow base e size v n xs) {g : Nat} {gc : Array Value} {t : TypeId} (hg : w.heap[g]? = some (.cells gc t (0, 0))) (hne : e ≠ t) : v.ownBlock ≠ some g := fun e2 => by
  obtain ⟨_, _, cur, h3⟩ := own_ge h e2
  rw [hg] at h3
  injection h3 with h3
  injection h3 with _ h4 _
  exact hne h4.symm
theorem infoInt : (Tryd.prog.info? 3).map (fun i => (i.zero, i.size, i.bytes)) = some (some (.int .i64 0), 1, 8) := by kernel_rfl
set_option maxRecDepth 100000 in
set_option maxHeartbeats 1000000 in
theorem brace_open {base : Nat} (h : Sc w P M s at_ en tm tv bv ov) (hR : Rows3 w base tv bv ov toks terms ops) (hP : P < base) (hM : M.blk < base) (hbw : base ≤ w.heap.size) (hlen : terms.length = toks.length) (hl : toks.length ≤ 100000) (ho : ops.length ≤ 100000) (lt : Bool) (hlt : ∀ hne : terms ≠ [], lt = terms.getLast hne) (direct : Bool) (tx : ByteArray) (htx : tx.data.toList = [123]) :
    Calls Tryd.prog 35 #[.pointer (some ⟨P, 0, none⟩), .string tx, .bool direct] w fun e w' => e = .returned (.int .i64 (openT toks lt direct : Nat)) ∧ Fr P base w w' ∧ (∀ i gc, w.heap[i]? = some (.cells gc 32 (0, 0)) → i ≠ P → w'.heap[i]? = some (.cells gc 32 (0, 0))) ∧ ∃ ov', Sc w' P M s at_ en tm tv bv ov' ∧ Rows3 w' base tv bv ov' toks terms (ops ++ [openT toks lt direct]) := by
  have HO := Lib.hid (fun (W : World) (g : Gr w W) => opened_g (h.gr g) (ownsRow_gr hR.t g) (ownsRow_gr hR.b g) hlen hl lt hlt direct)
  have H := Lib.hid h
  have HR := Lib.hid hR
  have t1 : (tx.toList == [123]) = true := by rw [ByteArray.toList_eq, htx]; rfl
  generalize openT toks lt direct = is at *
  obtain ⟨i0, hi, hz0, hz1, hz2⟩ := info_parts infoInt
  clear h hR htx hlt hlen hl
  go_enter Tryd.func35, Tryd.ntmps35
  go_wp2_with fail
  refine (HO.out _ (Gr.refl w)).mono ?_
  rintro e w2 ⟨rfl, g2⟩
  have G2 := Lib.hid g2
  have S2 := Lib.hid (H.out.gr g2)
  have R2 := Lib.hid (HR.out.gr g2)
  clear g2 HO
  obtain ⟨c0, c1, c2, c3, c4, c5, c6, c7, cf⟩ := S2.out.cells
  obtain ⟨d0, d1, d2, d3, d4, d5, d6, d7, df⟩ := (S2.out.gr ((Gr.refl w2).alloc (.cells #[.int .i64 (is : Int)] 3))).cells
  go_wp2_with (at_builtin; refine wpList_append_own _ rfl (.tmp 18) (.tmp 20) 37 rfl base 3 i0 (.int .i64 0) 1 8 Tryd.underlying37 hi hz0 hz1 hz2 rfl (by decide) _ _ _ rfl (ownsRow_gr R2.out.o ((Gr.refl w2).alloc _)) ⟨w2.heap.size, 0, none⟩ 1 1 [.int .i64 (is : Int)] rfl rfl ?c1 ?c2 ?c3 ?c4 ?c5 ?_)
  case c1 =>
    intro j u hj
    match j, hj with
    | 0, hj => simp at hj; subst hj; simp [Addr.add]
  case c2 => intro u hu; simp at hu; subst hu; rfl
  case c3 => unfold maxLen; omega
  case c4 => omega
  case c5 => have := G2.out.size; simp; omega
  intro v' w3 hown hgrow _
  have Hown := Lib.hid hown
  have Hgrow := Lib.hid hgrow
  clear hown hgrow c0 c1 c2 c3 c4 c5 c6 c7 cf d0 d1 d2 d3 d4 d5 d6 d7 df
  have hPo : ov.ownBlock ≠ some P := own_apart R2.out.o (.inl hP)
  have hMo : ov.ownBlock ≠ some M.blk := own_apart R2.out.o (.inl hM)
  have GX := Lib.hid ((Gr.refl w2).alloc (.cells #[.int .i64 (is : Int)] 3))
  have S3 := Lib.hid ((S2.out.gr GX.out).grown Hgrow.out hPo hMo)
  have T3 := Lib.hid (own_beside (ownsRow_gr R2.out.t GX.out) (ownsRow_gr R2.out.o GX.out) (by decide) Hgrow.out)
  have B3 := Lib.hid (own_beside (ownsRow_gr R2.out.b GX.out) (ownsRow_gr R2.out.o GX.out) (by decide) Hgrow.out)
  have F3 := Lib.hid (Fr.grow (Fr.but (Fr.of_but (But.of_gr (P := P) G2.out) hbw) (But.of_gr GX.out) (by have := G2.out.size; omega)) Hgrow.out (by have := G2.out.size; have := GX.out.size; omega) (fun i e => (own_ge R2.out.o e).1))
  obtain ⟨ao, cap, rfl⟩ := ownsRow_shape Hown.out
  obtain ⟨c0, c1, c2, c3, c4, c5, c6, c7, cf⟩ := S3.out.cells
  go_wp2_with fail
  go_ret
  have hPv : some P ≠ (Value.slice ao (ops.length + 1) cap).ownBlock := fun e => own_apart Hown.out (.inl hP) e.symm
  have hw3 : base ≤ w3.heap.size := by have := F3.out.size; omega
  have hkeep : ∀ i gc, w.heap[i]? = some (.cells gc 32 (0, 0)) → i ≠ P → (w3.setCell ⟨P, 6, none⟩ (Value.slice ao (ops.length + 1) cap)).heap[i]? = some (.cells gc 32 (0, 0)) := by
    intro i gc hi hne
    have h1 : i < w.heap.size := (Array.getElem?_eq_some_iff.1 hi).1
    have h2 : w2.heap[i]? = some (.cells gc 32 (0, 0)) := (G2.out.block i h1).trans hi
    have h3 : ov.ownBlock ≠ some i := own_ty R2.out.o h2 (by decide)
    have h4 : i < w2.heap.size := (Array.getElem?_eq_some_iff.1 h2).1
    have h5 : w3.heap[i]? = some (.cells gc 32 (0, 0)) := by
      rw [Hgrow.out.block _ (Nat.lt_of_lt_of_le h4 GX.out.size) (fun e => h3 e.symm), GX.out.block _ h4]; exact h2
    simp [World.setCell, Array.getElem?_modify, Ne.symm hne, h5]
  refine ⟨rfl, Fr.but F3.out (But.set 6 _) hw3, hkeep, _, S3.out.setOv _, ⟨own_set T3.out (fun e => own_apart T3.out (.inl hP) e.symm) 6 _, own_set B3.out (fun e => own_apart B3.out (.inl hP) e.symm) 6 _, ?_⟩⟩
  have := own_set Hown.out hPv 6 (Value.slice ao (ops.length + 1) cap)
  have e1 : (ops ++ [is]).length = ops.length + 1 := by simp
  have e2 : (ops ++ [is]).map (fun (x : Nat) => Value.int .i64 (x : Int)) = ops.map (fun (x : Nat) => Value.int .i64 (x : Int)) ++ [.int .i64 (is : Int)] := by simp
  show World.ownsRow _ _ _ _ _ _ _
  rw [e1, e2]
  exact this
set_option maxRecDepth 100000 in
theorem brace_close (tx : ByteArray) (htx : tx.data.toList = [125]) (d : Bool) (is : Nat) (post : World → Prop) (hC : Calls Tryd.prog 48 #[.pointer (some ⟨P, 0, none⟩)] w fun e w' => e = .returned (.int .i64 is) ∧ post w') :
    Calls Tryd.prog 35 #[.pointer (some ⟨P, 0, none⟩), .string tx, .bool d] w fun e w' => e = .returned (.int .i64 is) ∧ post w' := by
  have HC := Lib.hid hC
  have t1 : (tx.toList == [123]) = false := by rw [ByteArray.toList_eq, htx]; rfl
  have t2 : (tx.toList == [125]) = true := by rw [ByteArray.toList_eq, htx]; rfl
  clear hC htx
  go_enter Tryd.func35, Tryd.ntmps35
  go_wp2_with fail
  refine (HC.out).mono ?_
  rintro e w2 ⟨rfl, h2⟩
  have H2 := Lib.hid h2
  clear h2
  go_wp2_with fail
  go_ret
  exact ⟨rfl, H2.out⟩
end Go.Proofs.YthmopindibdhnaaDoor.G
