import Derived.Test.YthmopindibdhnaaGreatDoorQ00
import Derived.Test.YthmopindibdhnaaGreatDoorQ12
import Derived.Test.YthmopindibdhnaaGreatDoorQ04
namespace Go.Proofs.YthmopindibdhnaaGreatDoor.G
open Go.RowKit Go.Shelf Go.Maps
def ReadsG (w0 : World) (K : Nat) (P : Nat) (M : GoMap) (s : ByteArray) (a en : Nat) (tm : Bool) (tv bv ov : Value) (tk : Tok) (C : GoMap → Nat → Prop) : Prop :=
 ∀ W, Bt P M.blk w0 W → Sc W P M s a en tm tv bv ov → Calls Tryz.prog K #[.pointer (some ⟨P, 0, none⟩)] W fun e w' => ∃ M' b, e = .returned (.agg #[.int .i64 tk.kind, .int .i64 tk.place, .string tk.text, .string tk.repl, .string tk.more, .int .i64 tk.opn]) ∧ Sc w' P M' s b en tm tv bv ov ∧ Bt P M.blk W w' ∧ M'.blk = M.blk ∧ C M' b
def FindsG (w0 : World) (K : Nat) (P : Nat) (M : GoMap) (s : ByteArray) (a en : Nat) (tm : Bool) (tv bv ov : Value) (tk : Tok) (C : GoMap → Nat → Prop) : Prop :=
 ∀ W, Bt P M.blk w0 W → Sc W P M s a en tm tv bv ov → Calls Tryz.prog K #[.pointer (some ⟨P, 0, none⟩)] W fun e w' => ∃ M' b, e = .returned (.tuple #[.agg #[.int .i64 tk.kind, .int .i64 tk.place, .string tk.text, .string tk.repl, .string tk.more, .int .i64 tk.opn], .bool true]) ∧ Sc w' P M' s b en tm tv bv ov ∧ Bt P M.blk W w' ∧ M'.blk = M.blk ∧ C M' b
def FindsN (w0 : World) (K : Nat) (P : Nat) (M : GoMap) (s : ByteArray) (a en : Nat) (tm : Bool) (tv bv ov : Value) : Prop :=
 ∀ W, Bt P M.blk w0 W → Sc W P M s a en tm tv bv ov → Calls Tryz.prog K #[.pointer (some ⟨P, 0, none⟩)] W fun e w' => e = .returned (.tuple #[.agg #[.int .i64 0, .int .i64 0, .string ⟨#[]⟩, .string ⟨#[]⟩, .string ⟨#[]⟩, .int .i64 0], .bool false]) ∧ Sc w' P M s a en tm tv bv ov ∧ Bt P M.blk W w'
def FailsG (w0 : World) (K : Nat) (P : Nat) (M : GoMap) (s : ByteArray) (a en : Nat) (tm : Bool) (tv bv ov : Value) : Prop :=
 ∀ W, Bt P M.blk w0 W → Sc W P M s a en tm tv bv ov → Calls Tryz.prog K #[.pointer (some ⟨P, 0, none⟩)] W fun e w' => Bad s e ∧ Bt P M.blk W w'
variable {w w' : World} {P : Nat} {M : GoMap} {s : ByteArray} {at_ en : Nat} {tm : Bool} {tv bv ov : Value} {tk : Tok} {C : GoMap → Nat → Prop} {x : UInt8}
set_option maxRecDepth 100000 in
set_option maxHeartbeats 1000000 in
theorem tk_quote (h : Sc w P M s at_ en true tv bv ov) (hr : FindsG w 99 P M s at_ en true tv bv ov tk C) :
  Calls Tryz.prog 82 #[.pointer (some ⟨P, 0, none⟩)] w fun e w' => ∃ M' b, e = .returned tk.val ∧ Sc w' P M' s b en true tv bv ov ∧ Bt P M.blk w w' ∧ M'.blk = M.blk ∧ C M' b := by
 have HR := Lh hr
 unfold FindsG at HR
 clear hr
 have hP : P < w.heap.size := h.lt.1
 have hM : M.blk < w.heap.size := h.lt.2
 obtain ⟨c0, c1, c2, c3, c4, c5, c6, c7, cf⟩ := (h.gr ((Gr.refl w).alloc (.cells #[.int .i64 0, .int .i64 0, .string ⟨#[]⟩, .string ⟨#[]⟩, .string ⟨#[]⟩, .int .i64 0] 42))).cells
 have S1 := Lh (h.gr ((Gr.refl w).alloc (.cells #[.int .i64 0, .int .i64 0, .string ⟨#[]⟩, .string ⟨#[]⟩, .string ⟨#[]⟩, .int .i64 0] 42)))
 have K1 : Hid ((w.alloc (.cells #[.int .i64 0, .int .i64 0, .string ⟨#[]⟩, .string ⟨#[]⟩, .string ⟨#[]⟩, .int .i64 0] 42)).heap[w.heap.size]? = some (.cells #[.int .i64 0, .int .i64 0, .string ⟨#[]⟩, .string ⟨#[]⟩, .string ⟨#[]⟩, .int .i64 0] 42 (0, 0))) := Lh (heap_alloc_new w _)
 have B1 : Hid (Bt P M.blk w (w.alloc (.cells #[.int .i64 0, .int .i64 0, .string ⟨#[]⟩, .string ⟨#[]⟩, .string ⟨#[]⟩, .int .i64 0] 42))) := Lh (Bt.of_gr ((Gr.refl w).alloc _))
 clear h
 go_enter Tryz.func82, Tryz.ntmps82
 go_wp2_with fail
 clear c0 c1 c2 c3 c4 c5 c6 c7 cf
 refine (HR.out _ B1.out S1.out).mono ?_
 rintro e6 w6 ⟨M', b, rfl, hS6, hb6, hM6, hC⟩
 have g6 := Lh ((Gr.refl w6).alloc (.cells #[.int .i64 tk.kind, .int .i64 tk.place, .string tk.text, .string tk.repl, .string tk.more, .int .i64 tk.opn] 42))
 have S6 := Lh (hS6.gr g6.out)
 have K6 := Lh ((g6.out.block _ (Nat.lt_of_lt_of_le (Ag K1.out).1 hb6.size)).trans ((hb6.block _ (Ag K1.out).1 (by omega) (by omega)).trans K1.out))
 have B6 := Lh ((B1.out.trans hb6).trans (Bt.of_gr g6.out))
 have HM6 := Lh hM6
 have HC := Lh hC
 clear hS6 hb6 hM6 hC S1 K1 B1 HR
 go_wp2_with (refine wpList_store_tok rfl (.tmp 2) (.tmp 20) rfl (t := tk) rfl rfl K6.out rfl ?_)
 intro W9 hb9 hk9
 have B9 := Lh hb9
 have K9 := Lh hk9
 clear hb9 hk9
 go_wp2_with fail
 refine bodyPost_ret (results_tok rfl rfl K9.out) rfl ?_
 have hm := HM6.out
 exact ⟨M', b, rfl, S6.out.but B9.out (by omega) (by omega), B6.out.late (Nat.le_refl _) B9.out, hm, HC.out⟩
set_option maxRecDepth 100000 in
set_option maxHeartbeats 1000000 in
theorem tk_here (h : Sc w P M s at_ en true tv bv ov) (hq : FindsN w 99 P M s at_ en true tv bv ov) (hr : FindsG w 100 P M s at_ en true tv bv ov tk C) :
  Calls Tryz.prog 82 #[.pointer (some ⟨P, 0, none⟩)] w fun e w' => ∃ M' b, e = .returned tk.val ∧ Sc w' P M' s b en true tv bv ov ∧ Bt P M.blk w w' ∧ M'.blk = M.blk ∧ C M' b := by
 have HR := Lh hr
 unfold FindsG at HR
 clear hr
 have Hq := Lh hq
 unfold FindsN at Hq
 clear hq
 have hP : P < w.heap.size := h.lt.1
 have hM : M.blk < w.heap.size := h.lt.2
 obtain ⟨c0, c1, c2, c3, c4, c5, c6, c7, cf⟩ := (h.gr ((Gr.refl w).alloc (.cells #[.int .i64 0, .int .i64 0, .string ⟨#[]⟩, .string ⟨#[]⟩, .string ⟨#[]⟩, .int .i64 0] 42))).cells
 have S1 := Lh (h.gr ((Gr.refl w).alloc (.cells #[.int .i64 0, .int .i64 0, .string ⟨#[]⟩, .string ⟨#[]⟩, .string ⟨#[]⟩, .int .i64 0] 42)))
 have K1 : Hid ((w.alloc (.cells #[.int .i64 0, .int .i64 0, .string ⟨#[]⟩, .string ⟨#[]⟩, .string ⟨#[]⟩, .int .i64 0] 42)).heap[w.heap.size]? = some (.cells #[.int .i64 0, .int .i64 0, .string ⟨#[]⟩, .string ⟨#[]⟩, .string ⟨#[]⟩, .int .i64 0] 42 (0, 0))) := Lh (heap_alloc_new w _)
 have B1 : Hid (Bt P M.blk w (w.alloc (.cells #[.int .i64 0, .int .i64 0, .string ⟨#[]⟩, .string ⟨#[]⟩, .string ⟨#[]⟩, .int .i64 0] 42))) := Lh (Bt.of_gr ((Gr.refl w).alloc _))
 clear h
 go_enter Tryz.func82, Tryz.ntmps82
 go_wp2_with fail
 clear c0 c1 c2 c3 c4 c5 c6 c7 cf
 refine (Hq.out _ B1.out S1.out).mono ?_
 rintro e2 w2 ⟨rfl, hS2, hb2⟩
 have g2 := Lh ((Gr.refl w2).alloc (.cells #[.int .i64 0, .int .i64 0, .string ⟨#[]⟩, .string ⟨#[]⟩, .string ⟨#[]⟩, .int .i64 0] 42))
 have S2 := Lh (hS2.gr g2.out)
 have K2 := Lh ((g2.out.block _ (Nat.lt_of_lt_of_le (Ag K1.out).1 hb2.size)).trans ((hb2.block _ (Ag K1.out).1 (by omega) (by omega)).trans K1.out))
 have B2 := Lh ((B1.out.trans hb2).trans (Bt.of_gr g2.out))
 clear hS2 hb2 g2 S1 K1 B1
 go_wp2_with fail
 refine (HR.out _ B2.out S2.out).mono ?_
 rintro e6 w6 ⟨M', b, rfl, hS6, hb6, hM6, hC⟩
 have g6 := Lh ((Gr.refl w6).alloc (.cells #[.int .i64 tk.kind, .int .i64 tk.place, .string tk.text, .string tk.repl, .string tk.more, .int .i64 tk.opn] 42))
 have S6 := Lh (hS6.gr g6.out)
 have K6 := Lh ((g6.out.block _ (Nat.lt_of_lt_of_le (Ag K2.out).1 hb6.size)).trans ((hb6.block _ (Ag K2.out).1 (by omega) (by omega)).trans K2.out))
 have B6 := Lh ((B2.out.trans hb6).trans (Bt.of_gr g6.out))
 have HM6 := Lh hM6
 have HC := Lh hC
 clear hS6 hb6 hM6 hC S2 K2 B2 HR
 go_wp2_with (refine wpList_store_tok rfl (.tmp 2) (.tmp 27) rfl (t := tk) rfl rfl K6.out rfl ?_)
 intro W9 hb9 hk9
 have B9 := Lh hb9
 have K9 := Lh hk9
 clear hb9 hk9
 go_wp2_with fail
 refine bodyPost_ret (results_tok rfl rfl K9.out) rfl ?_
 have hm := HM6.out
 exact ⟨M', b, rfl, S6.out.but B9.out (by omega) (by omega), B6.out.late (Nat.le_refl _) B9.out, hm, HC.out⟩
set_option maxRecDepth 100000 in
set_option maxHeartbeats 1000000 in
theorem tk_var (h : Sc w P M s at_ en true tv bv ov) (hq : FindsN w 99 P M s at_ en true tv bv ov) (hh : FindsN w 100 P M s at_ en true tv bv ov) (hr : FindsG w 101 P M s at_ en true tv bv ov tk C) :
  Calls Tryz.prog 82 #[.pointer (some ⟨P, 0, none⟩)] w fun e w' => ∃ M' b, e = .returned tk.val ∧ Sc w' P M' s b en true tv bv ov ∧ Bt P M.blk w w' ∧ M'.blk = M.blk ∧ C M' b := by
 have HR := Lh hr
 unfold FindsG at HR
 clear hr
 have Hq := Lh hq
 unfold FindsN at Hq
 clear hq
 have Hh := Lh hh
 unfold FindsN at Hh
 clear hh
 have hP : P < w.heap.size := h.lt.1
 have hM : M.blk < w.heap.size := h.lt.2
 obtain ⟨c0, c1, c2, c3, c4, c5, c6, c7, cf⟩ := (h.gr ((Gr.refl w).alloc (.cells #[.int .i64 0, .int .i64 0, .string ⟨#[]⟩, .string ⟨#[]⟩, .string ⟨#[]⟩, .int .i64 0] 42))).cells
 have S1 := Lh (h.gr ((Gr.refl w).alloc (.cells #[.int .i64 0, .int .i64 0, .string ⟨#[]⟩, .string ⟨#[]⟩, .string ⟨#[]⟩, .int .i64 0] 42)))
 have K1 : Hid ((w.alloc (.cells #[.int .i64 0, .int .i64 0, .string ⟨#[]⟩, .string ⟨#[]⟩, .string ⟨#[]⟩, .int .i64 0] 42)).heap[w.heap.size]? = some (.cells #[.int .i64 0, .int .i64 0, .string ⟨#[]⟩, .string ⟨#[]⟩, .string ⟨#[]⟩, .int .i64 0] 42 (0, 0))) := Lh (heap_alloc_new w _)
 have B1 : Hid (Bt P M.blk w (w.alloc (.cells #[.int .i64 0, .int .i64 0, .string ⟨#[]⟩, .string ⟨#[]⟩, .string ⟨#[]⟩, .int .i64 0] 42))) := Lh (Bt.of_gr ((Gr.refl w).alloc _))
 clear h
 go_enter Tryz.func82, Tryz.ntmps82
 go_wp2_with fail
 clear c0 c1 c2 c3 c4 c5 c6 c7 cf
 refine (Hq.out _ B1.out S1.out).mono ?_
 rintro e2 w2 ⟨rfl, hS2, hb2⟩
 have g2 := Lh ((Gr.refl w2).alloc (.cells #[.int .i64 0, .int .i64 0, .string ⟨#[]⟩, .string ⟨#[]⟩, .string ⟨#[]⟩, .int .i64 0] 42))
 have S2 := Lh (hS2.gr g2.out)
 have K2 := Lh ((g2.out.block _ (Nat.lt_of_lt_of_le (Ag K1.out).1 hb2.size)).trans ((hb2.block _ (Ag K1.out).1 (by omega) (by omega)).trans K1.out))
 have B2 := Lh ((B1.out.trans hb2).trans (Bt.of_gr g2.out))
 clear hS2 hb2 g2 S1 K1 B1
 go_wp2_with fail
 refine (Hh.out _ B2.out S2.out).mono ?_
 rintro e3 w3 ⟨rfl, hS3, hb3⟩
 have g3 := Lh ((Gr.refl w3).alloc (.cells #[.int .i64 0, .int .i64 0, .string ⟨#[]⟩, .string ⟨#[]⟩, .string ⟨#[]⟩, .int .i64 0] 42))
 have S3 := Lh (hS3.gr g3.out)
 have K3 := Lh ((g3.out.block _ (Nat.lt_of_lt_of_le (Ag K2.out).1 hb3.size)).trans ((hb3.block _ (Ag K2.out).1 (by omega) (by omega)).trans K2.out))
 have B3 := Lh ((B2.out.trans hb3).trans (Bt.of_gr g3.out))
 clear hS3 hb3 g3 S2 K2 B2
 go_wp2_with fail
 refine (HR.out _ B3.out S3.out).mono ?_
 rintro e6 w6 ⟨M', b, rfl, hS6, hb6, hM6, hC⟩
 have g6 := Lh ((Gr.refl w6).alloc (.cells #[.int .i64 tk.kind, .int .i64 tk.place, .string tk.text, .string tk.repl, .string tk.more, .int .i64 tk.opn] 42))
 have S6 := Lh (hS6.gr g6.out)
 have K6 := Lh ((g6.out.block _ (Nat.lt_of_lt_of_le (Ag K3.out).1 hb6.size)).trans ((hb6.block _ (Ag K3.out).1 (by omega) (by omega)).trans K3.out))
 have B6 := Lh ((B3.out.trans hb6).trans (Bt.of_gr g6.out))
 have HM6 := Lh hM6
 have HC := Lh hC
 clear hS6 hb6 hM6 hC S3 K3 B3 HR
 go_wp2_with (refine wpList_store_tok rfl (.tmp 2) (.tmp 34) rfl (t := tk) rfl rfl K6.out rfl ?_)
 intro W9 hb9 hk9
 have B9 := Lh hb9
 have K9 := Lh hk9
 clear hb9 hk9
 go_wp2_with fail
 refine bodyPost_ret (results_tok rfl rfl K9.out) rfl ?_
 have hm := HM6.out
 exact ⟨M', b, rfl, S6.out.but B9.out (by omega) (by omega), B6.out.late (Nat.le_refl _) B9.out, hm, HC.out⟩
set_option maxRecDepth 100000 in
set_option maxHeartbeats 1000000 in
theorem tk_word_t (h : Sc w P M s at_ en true tv bv ov) (hq : FindsN w 99 P M s at_ en true tv bv ov) (hh : FindsN w 100 P M s at_ en true tv bv ov) (hv : FindsN w 101 P M s at_ en true tv bv ov) (hx : s.data.toList[at_]? = some x) (ha : alphaB x.toNat = true) (hr : ReadsG w 103 P M s at_ en true tv bv ov tk C) :
  Calls Tryz.prog 82 #[.pointer (some ⟨P, 0, none⟩)] w fun e w' => ∃ M' b, e = .returned tk.val ∧ Sc w' P M' s b en true tv bv ov ∧ Bt P M.blk w w' ∧ M'.blk = M.blk ∧ C M' b := by
 have hL : at_ < s.data.toList.length := (List.getElem?_eq_some_iff.1 hx).1
 have hat : at_ < s.size := by rw [sizeL] at hL; exact hL
 have ex : s[at_] = x := by rw [byteE s at_ hat hL]; exact (List.getElem?_eq_some_iff.1 hx).2
 have hat' : (at_ : Int) < (s.size : Int) := by omega
 have HA := Lh (fun w => alpha_p x.toNat w)
 rw [ha] at HA
 clear hx ha
 have HR := Lh hr
 unfold ReadsG at HR
 clear hr
 have Hq := Lh hq
 unfold FindsN at Hq
 clear hq
 have Hh := Lh hh
 unfold FindsN at Hh
 clear hh
 have Hv := Lh hv
 unfold FindsN at Hv
 clear hv
 have hP : P < w.heap.size := h.lt.1
 have hM : M.blk < w.heap.size := h.lt.2
 obtain ⟨c0, c1, c2, c3, c4, c5, c6, c7, cf⟩ := (h.gr ((Gr.refl w).alloc (.cells #[.int .i64 0, .int .i64 0, .string ⟨#[]⟩, .string ⟨#[]⟩, .string ⟨#[]⟩, .int .i64 0] 42))).cells
 have S1 := Lh (h.gr ((Gr.refl w).alloc (.cells #[.int .i64 0, .int .i64 0, .string ⟨#[]⟩, .string ⟨#[]⟩, .string ⟨#[]⟩, .int .i64 0] 42)))
 have K1 : Hid ((w.alloc (.cells #[.int .i64 0, .int .i64 0, .string ⟨#[]⟩, .string ⟨#[]⟩, .string ⟨#[]⟩, .int .i64 0] 42)).heap[w.heap.size]? = some (.cells #[.int .i64 0, .int .i64 0, .string ⟨#[]⟩, .string ⟨#[]⟩, .string ⟨#[]⟩, .int .i64 0] 42 (0, 0))) := Lh (heap_alloc_new w _)
 have B1 : Hid (Bt P M.blk w (w.alloc (.cells #[.int .i64 0, .int .i64 0, .string ⟨#[]⟩, .string ⟨#[]⟩, .string ⟨#[]⟩, .int .i64 0] 42))) := Lh (Bt.of_gr ((Gr.refl w).alloc _))
 clear h
 go_enter Tryz.func82, Tryz.ntmps82
 go_wp2_with fail
 clear c0 c1 c2 c3 c4 c5 c6 c7 cf
 refine (Hq.out _ B1.out S1.out).mono ?_
 rintro e2 w2 ⟨rfl, hS2, hb2⟩
 have g2 := Lh ((Gr.refl w2).alloc (.cells #[.int .i64 0, .int .i64 0, .string ⟨#[]⟩, .string ⟨#[]⟩, .string ⟨#[]⟩, .int .i64 0] 42))
 have S2 := Lh (hS2.gr g2.out)
 have K2 := Lh ((g2.out.block _ (Nat.lt_of_lt_of_le (Ag K1.out).1 hb2.size)).trans ((hb2.block _ (Ag K1.out).1 (by omega) (by omega)).trans K1.out))
 have B2 := Lh ((B1.out.trans hb2).trans (Bt.of_gr g2.out))
 clear hS2 hb2 g2 S1 K1 B1
 go_wp2_with fail
 refine (Hh.out _ B2.out S2.out).mono ?_
 rintro e3 w3 ⟨rfl, hS3, hb3⟩
 have g3 := Lh ((Gr.refl w3).alloc (.cells #[.int .i64 0, .int .i64 0, .string ⟨#[]⟩, .string ⟨#[]⟩, .string ⟨#[]⟩, .int .i64 0] 42))
 have S3 := Lh (hS3.gr g3.out)
 have K3 := Lh ((g3.out.block _ (Nat.lt_of_lt_of_le (Ag K2.out).1 hb3.size)).trans ((hb3.block _ (Ag K2.out).1 (by omega) (by omega)).trans K2.out))
 have B3 := Lh ((B2.out.trans hb3).trans (Bt.of_gr g3.out))
 clear hS3 hb3 g3 S2 K2 B2
 go_wp2_with fail
 refine (Hv.out _ B3.out S3.out).mono ?_
 rintro e4 w4 ⟨rfl, hS4, hb4⟩
 have g4 := Lh ((Gr.refl w4).alloc (.cells #[.int .i64 0, .int .i64 0, .string ⟨#[]⟩, .string ⟨#[]⟩, .string ⟨#[]⟩, .int .i64 0] 42))
 have S4 := Lh (hS4.gr g4.out)
 have K4 := Lh ((g4.out.block _ (Nat.lt_of_lt_of_le (Ag K3.out).1 hb4.size)).trans ((hb4.block _ (Ag K3.out).1 (by omega) (by omega)).trans K3.out))
 have B4 := Lh ((B3.out.trans hb4).trans (Bt.of_gr g4.out))
 clear hS4 hb4 g4 S3 K3 B3
 obtain ⟨c0, c1, c2, c3, c4, c5, c6, c7, cf⟩ := S4.out.cells
 go_wp2_with fail
 go_quiet (fail)
 clear c0 c1 c2 c3 c4 c5 c6 c7 cf
 go_wp2_with fail
 refine (HA.out _).mono ?_
 rintro e wa ⟨rfl, rfl⟩
 go_wp2_with fail
 refine (HR.out _ (B4.out.trans (Bt.of_gr ((Gr.refl _).drewN _))) (S4.out.gr ((Gr.refl _).drewN _))).mono ?_
 rintro e6 w6 ⟨M', b, rfl, hS6, hb6, hM6, hC⟩
 have S6 := Lh hS6
 have K6 := Lh ((hb6.block _ (Ag K4.out).1 (by omega) (by omega)).trans K4.out)
 have B6 := Lh ((B4.out.trans (Bt.of_gr ((Gr.refl _).drewN _))).trans hb6)
 have HM6 := Lh hM6
 have HC := Lh hC
 clear hS6 hb6 hM6 hC S4 K4 B4 HR
 go_wp2_with (refine wpList_store_tok rfl (.tmp 2) (.tmp 48) rfl (t := tk) rfl rfl K6.out rfl ?_)
 intro W9 hb9 hk9
 have B9 := Lh hb9
 have K9 := Lh hk9
 clear hb9 hk9
 go_wp2_with fail
 refine bodyPost_ret (results_tok rfl rfl K9.out) rfl ?_
 have hm := HM6.out
 exact ⟨M', b, rfl, S6.out.but B9.out (by omega) (by omega), B6.out.late (Nat.le_refl _) B9.out, hm, HC.out⟩
set_option maxRecDepth 100000 in
set_option maxHeartbeats 1000000 in
theorem tk_word_f (h : Sc w P M s at_ en false tv bv ov) (hx : s.data.toList[at_]? = some x) (ha : alphaB x.toNat = true) (hr : ReadsG w 103 P M s at_ en false tv bv ov tk C) :
  Calls Tryz.prog 82 #[.pointer (some ⟨P, 0, none⟩)] w fun e w' => ∃ M' b, e = .returned tk.val ∧ Sc w' P M' s b en false tv bv ov ∧ Bt P M.blk w w' ∧ M'.blk = M.blk ∧ C M' b := by
 have hL : at_ < s.data.toList.length := (List.getElem?_eq_some_iff.1 hx).1
 have hat : at_ < s.size := by rw [sizeL] at hL; exact hL
 have ex : s[at_] = x := by rw [byteE s at_ hat hL]; exact (List.getElem?_eq_some_iff.1 hx).2
 have hat' : (at_ : Int) < (s.size : Int) := by omega
 have HA := Lh (fun w => alpha_p x.toNat w)
 rw [ha] at HA
 clear hx ha
 have HR := Lh hr
 unfold ReadsG at HR
 clear hr
 have hP : P < w.heap.size := h.lt.1
 have hM : M.blk < w.heap.size := h.lt.2
 obtain ⟨c0, c1, c2, c3, c4, c5, c6, c7, cf⟩ := (h.gr ((Gr.refl w).alloc (.cells #[.int .i64 0, .int .i64 0, .string ⟨#[]⟩, .string ⟨#[]⟩, .string ⟨#[]⟩, .int .i64 0] 42))).cells
 have S1 := Lh (h.gr ((Gr.refl w).alloc (.cells #[.int .i64 0, .int .i64 0, .string ⟨#[]⟩, .string ⟨#[]⟩, .string ⟨#[]⟩, .int .i64 0] 42)))
 have K1 : Hid ((w.alloc (.cells #[.int .i64 0, .int .i64 0, .string ⟨#[]⟩, .string ⟨#[]⟩, .string ⟨#[]⟩, .int .i64 0] 42)).heap[w.heap.size]? = some (.cells #[.int .i64 0, .int .i64 0, .string ⟨#[]⟩, .string ⟨#[]⟩, .string ⟨#[]⟩, .int .i64 0] 42 (0, 0))) := Lh (heap_alloc_new w _)
 have B1 : Hid (Bt P M.blk w (w.alloc (.cells #[.int .i64 0, .int .i64 0, .string ⟨#[]⟩, .string ⟨#[]⟩, .string ⟨#[]⟩, .int .i64 0] 42))) := Lh (Bt.of_gr ((Gr.refl w).alloc _))
 clear h
 go_enter Tryz.func82, Tryz.ntmps82
 go_wp2_with fail
 go_quiet (fail)
 clear c0 c1 c2 c3 c4 c5 c6 c7 cf
 go_wp2_with fail
 refine (HA.out _).mono ?_
 rintro e wa ⟨rfl, rfl⟩
 go_wp2_with fail
 refine (HR.out _ (B1.out.trans (Bt.of_gr ((Gr.refl _).drewN _))) (S1.out.gr ((Gr.refl _).drewN _))).mono ?_
 rintro e6 w6 ⟨M', b, rfl, hS6, hb6, hM6, hC⟩
 have S6 := Lh hS6
 have K6 := Lh ((hb6.block _ (Ag K1.out).1 (by omega) (by omega)).trans K1.out)
 have B6 := Lh ((B1.out.trans (Bt.of_gr ((Gr.refl _).drewN _))).trans hb6)
 have HM6 := Lh hM6
 have HC := Lh hC
 clear hS6 hb6 hM6 hC S1 K1 B1 HR
 go_wp2_with (refine wpList_store_tok rfl (.tmp 2) (.tmp 48) rfl (t := tk) rfl rfl K6.out rfl ?_)
 intro W9 hb9 hk9
 have B9 := Lh hb9
 have K9 := Lh hk9
 clear hb9 hk9
 go_wp2_with fail
 refine bodyPost_ret (results_tok rfl rfl K9.out) rfl ?_
 have hm := HM6.out
 exact ⟨M', b, rfl, S6.out.but B9.out (by omega) (by omega), B6.out.late (Nat.le_refl _) B9.out, hm, HC.out⟩
set_option maxRecDepth 100000 in
set_option maxHeartbeats 1000000 in
theorem tk_number_t (h : Sc w P M s at_ en true tv bv ov) (hq : FindsN w 99 P M s at_ en true tv bv ov) (hh : FindsN w 100 P M s at_ en true tv bv ov) (hv : FindsN w 101 P M s at_ en true tv bv ov) (hx : s.data.toList[at_]? = some x) (ha : alphaB x.toNat = false) (hd : digB x.toNat = true) (hr : ReadsG w 105 P M s at_ en true tv bv ov tk C) :
  Calls Tryz.prog 82 #[.pointer (some ⟨P, 0, none⟩)] w fun e w' => ∃ M' b, e = .returned tk.val ∧ Sc w' P M' s b en true tv bv ov ∧ Bt P M.blk w w' ∧ M'.blk = M.blk ∧ C M' b := by
 have hL : at_ < s.data.toList.length := (List.getElem?_eq_some_iff.1 hx).1
 have hat : at_ < s.size := by rw [sizeL] at hL; exact hL
 have ex : s[at_] = x := by rw [byteE s at_ hat hL]; exact (List.getElem?_eq_some_iff.1 hx).2
 have hat' : (at_ : Int) < (s.size : Int) := by omega
 have HA := Lh (fun w => alpha_p x.toNat w)
 rw [ha] at HA
 have HD := Lh (fun w => dig_p x.toNat w)
 rw [hd] at HD
 clear hx ha hd
 have HR := Lh hr
 unfold ReadsG at HR
 clear hr
 have Hq := Lh hq
 unfold FindsN at Hq
 clear hq
 have Hh := Lh hh
 unfold FindsN at Hh
 clear hh
 have Hv := Lh hv
 unfold FindsN at Hv
 clear hv
 have hP : P < w.heap.size := h.lt.1
 have hM : M.blk < w.heap.size := h.lt.2
 obtain ⟨c0, c1, c2, c3, c4, c5, c6, c7, cf⟩ := (h.gr ((Gr.refl w).alloc (.cells #[.int .i64 0, .int .i64 0, .string ⟨#[]⟩, .string ⟨#[]⟩, .string ⟨#[]⟩, .int .i64 0] 42))).cells
 have S1 := Lh (h.gr ((Gr.refl w).alloc (.cells #[.int .i64 0, .int .i64 0, .string ⟨#[]⟩, .string ⟨#[]⟩, .string ⟨#[]⟩, .int .i64 0] 42)))
 have K1 : Hid ((w.alloc (.cells #[.int .i64 0, .int .i64 0, .string ⟨#[]⟩, .string ⟨#[]⟩, .string ⟨#[]⟩, .int .i64 0] 42)).heap[w.heap.size]? = some (.cells #[.int .i64 0, .int .i64 0, .string ⟨#[]⟩, .string ⟨#[]⟩, .string ⟨#[]⟩, .int .i64 0] 42 (0, 0))) := Lh (heap_alloc_new w _)
 have B1 : Hid (Bt P M.blk w (w.alloc (.cells #[.int .i64 0, .int .i64 0, .string ⟨#[]⟩, .string ⟨#[]⟩, .string ⟨#[]⟩, .int .i64 0] 42))) := Lh (Bt.of_gr ((Gr.refl w).alloc _))
 clear h
 go_enter Tryz.func82, Tryz.ntmps82
 go_wp2_with fail
 clear c0 c1 c2 c3 c4 c5 c6 c7 cf
 refine (Hq.out _ B1.out S1.out).mono ?_
 rintro e2 w2 ⟨rfl, hS2, hb2⟩
 have g2 := Lh ((Gr.refl w2).alloc (.cells #[.int .i64 0, .int .i64 0, .string ⟨#[]⟩, .string ⟨#[]⟩, .string ⟨#[]⟩, .int .i64 0] 42))
 have S2 := Lh (hS2.gr g2.out)
 have K2 := Lh ((g2.out.block _ (Nat.lt_of_lt_of_le (Ag K1.out).1 hb2.size)).trans ((hb2.block _ (Ag K1.out).1 (by omega) (by omega)).trans K1.out))
 have B2 := Lh ((B1.out.trans hb2).trans (Bt.of_gr g2.out))
 clear hS2 hb2 g2 S1 K1 B1
 go_wp2_with fail
 refine (Hh.out _ B2.out S2.out).mono ?_
 rintro e3 w3 ⟨rfl, hS3, hb3⟩
 have g3 := Lh ((Gr.refl w3).alloc (.cells #[.int .i64 0, .int .i64 0, .string ⟨#[]⟩, .string ⟨#[]⟩, .string ⟨#[]⟩, .int .i64 0] 42))
 have S3 := Lh (hS3.gr g3.out)
 have K3 := Lh ((g3.out.block _ (Nat.lt_of_lt_of_le (Ag K2.out).1 hb3.size)).trans ((hb3.block _ (Ag K2.out).1 (by omega) (by omega)).trans K2.out))
 have B3 := Lh ((B2.out.trans hb3).trans (Bt.of_gr g3.out))
 clear hS3 hb3 g3 S2 K2 B2
 go_wp2_with fail
 refine (Hv.out _ B3.out S3.out).mono ?_
 rintro e4 w4 ⟨rfl, hS4, hb4⟩
 have g4 := Lh ((Gr.refl w4).alloc (.cells #[.int .i64 0, .int .i64 0, .string ⟨#[]⟩, .string ⟨#[]⟩, .string ⟨#[]⟩, .int .i64 0] 42))
 have S4 := Lh (hS4.gr g4.out)
 have K4 := Lh ((g4.out.block _ (Nat.lt_of_lt_of_le (Ag K3.out).1 hb4.size)).trans ((hb4.block _ (Ag K3.out).1 (by omega) (by omega)).trans K3.out))
 have B4 := Lh ((B3.out.trans hb4).trans (Bt.of_gr g4.out))
 clear hS4 hb4 g4 S3 K3 B3
 obtain ⟨c0, c1, c2, c3, c4, c5, c6, c7, cf⟩ := S4.out.cells
 go_wp2_with fail
 go_quiet (fail)
 clear c0 c1 c2 c3 c4 c5 c6 c7 cf
 go_wp2_with fail
 refine (HA.out _).mono ?_
 rintro e wa ⟨rfl, rfl⟩
 go_wp2_with fail
 refine (HD.out _).mono ?_
 rintro e wa ⟨rfl, rfl⟩
 go_wp2_with fail
 refine (HR.out _ (B4.out.trans (Bt.of_gr ((Gr.refl _).drewN _))) (S4.out.gr ((Gr.refl _).drewN _))).mono ?_
 rintro e6 w6 ⟨M', b, rfl, hS6, hb6, hM6, hC⟩
 have S6 := Lh hS6
 have K6 := Lh ((hb6.block _ (Ag K4.out).1 (by omega) (by omega)).trans K4.out)
 have B6 := Lh ((B4.out.trans (Bt.of_gr ((Gr.refl _).drewN _))).trans hb6)
 have HM6 := Lh hM6
 have HC := Lh hC
 clear hS6 hb6 hM6 hC S4 K4 B4 HR
 go_wp2_with (refine wpList_store_tok rfl (.tmp 2) (.tmp 53) rfl (t := tk) rfl rfl K6.out rfl ?_)
 intro W9 hb9 hk9
 have B9 := Lh hb9
 have K9 := Lh hk9
 clear hb9 hk9
 go_wp2_with fail
 refine bodyPost_ret (results_tok rfl rfl K9.out) rfl ?_
 have hm := HM6.out
 exact ⟨M', b, rfl, S6.out.but B9.out (by omega) (by omega), B6.out.late (Nat.le_refl _) B9.out, hm, HC.out⟩
set_option maxRecDepth 100000 in
set_option maxHeartbeats 1000000 in
theorem tk_number_f (h : Sc w P M s at_ en false tv bv ov) (hx : s.data.toList[at_]? = some x) (ha : alphaB x.toNat = false) (hd : digB x.toNat = true) (hr : ReadsG w 105 P M s at_ en false tv bv ov tk C) :
  Calls Tryz.prog 82 #[.pointer (some ⟨P, 0, none⟩)] w fun e w' => ∃ M' b, e = .returned tk.val ∧ Sc w' P M' s b en false tv bv ov ∧ Bt P M.blk w w' ∧ M'.blk = M.blk ∧ C M' b := by
 have hL : at_ < s.data.toList.length := (List.getElem?_eq_some_iff.1 hx).1
 have hat : at_ < s.size := by rw [sizeL] at hL; exact hL
 have ex : s[at_] = x := by rw [byteE s at_ hat hL]; exact (List.getElem?_eq_some_iff.1 hx).2
 have hat' : (at_ : Int) < (s.size : Int) := by omega
 have HA := Lh (fun w => alpha_p x.toNat w)
 rw [ha] at HA
 have HD := Lh (fun w => dig_p x.toNat w)
 rw [hd] at HD
 clear hx ha hd
 have HR := Lh hr
 unfold ReadsG at HR
 clear hr
 have hP : P < w.heap.size := h.lt.1
 have hM : M.blk < w.heap.size := h.lt.2
 obtain ⟨c0, c1, c2, c3, c4, c5, c6, c7, cf⟩ := (h.gr ((Gr.refl w).alloc (.cells #[.int .i64 0, .int .i64 0, .string ⟨#[]⟩, .string ⟨#[]⟩, .string ⟨#[]⟩, .int .i64 0] 42))).cells
 have S1 := Lh (h.gr ((Gr.refl w).alloc (.cells #[.int .i64 0, .int .i64 0, .string ⟨#[]⟩, .string ⟨#[]⟩, .string ⟨#[]⟩, .int .i64 0] 42)))
 have K1 : Hid ((w.alloc (.cells #[.int .i64 0, .int .i64 0, .string ⟨#[]⟩, .string ⟨#[]⟩, .string ⟨#[]⟩, .int .i64 0] 42)).heap[w.heap.size]? = some (.cells #[.int .i64 0, .int .i64 0, .string ⟨#[]⟩, .string ⟨#[]⟩, .string ⟨#[]⟩, .int .i64 0] 42 (0, 0))) := Lh (heap_alloc_new w _)
 have B1 : Hid (Bt P M.blk w (w.alloc (.cells #[.int .i64 0, .int .i64 0, .string ⟨#[]⟩, .string ⟨#[]⟩, .string ⟨#[]⟩, .int .i64 0] 42))) := Lh (Bt.of_gr ((Gr.refl w).alloc _))
 clear h
 go_enter Tryz.func82, Tryz.ntmps82
 go_wp2_with fail
 go_quiet (fail)
 clear c0 c1 c2 c3 c4 c5 c6 c7 cf
 go_wp2_with fail
 refine (HA.out _).mono ?_
 rintro e wa ⟨rfl, rfl⟩
 go_wp2_with fail
 refine (HD.out _).mono ?_
 rintro e wa ⟨rfl, rfl⟩
 go_wp2_with fail
 refine (HR.out _ (B1.out.trans (Bt.of_gr ((Gr.refl _).drewN _))) (S1.out.gr ((Gr.refl _).drewN _))).mono ?_
 rintro e6 w6 ⟨M', b, rfl, hS6, hb6, hM6, hC⟩
 have S6 := Lh hS6
 have K6 := Lh ((hb6.block _ (Ag K1.out).1 (by omega) (by omega)).trans K1.out)
 have B6 := Lh ((B1.out.trans (Bt.of_gr ((Gr.refl _).drewN _))).trans hb6)
 have HM6 := Lh hM6
 have HC := Lh hC
 clear hS6 hb6 hM6 hC S1 K1 B1 HR
 go_wp2_with (refine wpList_store_tok rfl (.tmp 2) (.tmp 53) rfl (t := tk) rfl rfl K6.out rfl ?_)
 intro W9 hb9 hk9
 have B9 := Lh hb9
 have K9 := Lh hk9
 clear hb9 hk9
 go_wp2_with fail
 refine bodyPost_ret (results_tok rfl rfl K9.out) rfl ?_
 have hm := HM6.out
 exact ⟨M', b, rfl, S6.out.but B9.out (by omega) (by omega), B6.out.late (Nat.le_refl _) B9.out, hm, HC.out⟩
set_option maxRecDepth 100000 in
set_option maxHeartbeats 1000000 in
theorem tk_sign_t (h : Sc w P M s at_ en true tv bv ov) (hq : FindsN w 99 P M s at_ en true tv bv ov) (hh : FindsN w 100 P M s at_ en true tv bv ov) (hv : FindsN w 101 P M s at_ en true tv bv ov) (hx : s.data.toList[at_]? = some x) (ha : alphaB x.toNat = false) (hd : digB x.toNat = false) (hr : ReadsG w 106 P M s at_ en true tv bv ov tk C) :
  Calls Tryz.prog 82 #[.pointer (some ⟨P, 0, none⟩)] w fun e w' => ∃ M' b, e = .returned tk.val ∧ Sc w' P M' s b en true tv bv ov ∧ Bt P M.blk w w' ∧ M'.blk = M.blk ∧ C M' b := by
 have hL : at_ < s.data.toList.length := (List.getElem?_eq_some_iff.1 hx).1
 have hat : at_ < s.size := by rw [sizeL] at hL; exact hL
 have ex : s[at_] = x := by rw [byteE s at_ hat hL]; exact (List.getElem?_eq_some_iff.1 hx).2
 have hat' : (at_ : Int) < (s.size : Int) := by omega
 have HA := Lh (fun w => alpha_p x.toNat w)
 rw [ha] at HA
 have HD := Lh (fun w => dig_p x.toNat w)
 rw [hd] at HD
 clear hx ha hd
 have HR := Lh hr
 unfold ReadsG at HR
 clear hr
 have Hq := Lh hq
 unfold FindsN at Hq
 clear hq
 have Hh := Lh hh
 unfold FindsN at Hh
 clear hh
 have Hv := Lh hv
 unfold FindsN at Hv
 clear hv
 have hP : P < w.heap.size := h.lt.1
 have hM : M.blk < w.heap.size := h.lt.2
 obtain ⟨c0, c1, c2, c3, c4, c5, c6, c7, cf⟩ := (h.gr ((Gr.refl w).alloc (.cells #[.int .i64 0, .int .i64 0, .string ⟨#[]⟩, .string ⟨#[]⟩, .string ⟨#[]⟩, .int .i64 0] 42))).cells
 have S1 := Lh (h.gr ((Gr.refl w).alloc (.cells #[.int .i64 0, .int .i64 0, .string ⟨#[]⟩, .string ⟨#[]⟩, .string ⟨#[]⟩, .int .i64 0] 42)))
 have K1 : Hid ((w.alloc (.cells #[.int .i64 0, .int .i64 0, .string ⟨#[]⟩, .string ⟨#[]⟩, .string ⟨#[]⟩, .int .i64 0] 42)).heap[w.heap.size]? = some (.cells #[.int .i64 0, .int .i64 0, .string ⟨#[]⟩, .string ⟨#[]⟩, .string ⟨#[]⟩, .int .i64 0] 42 (0, 0))) := Lh (heap_alloc_new w _)
 have B1 : Hid (Bt P M.blk w (w.alloc (.cells #[.int .i64 0, .int .i64 0, .string ⟨#[]⟩, .string ⟨#[]⟩, .string ⟨#[]⟩, .int .i64 0] 42))) := Lh (Bt.of_gr ((Gr.refl w).alloc _))
 clear h
 go_enter Tryz.func82, Tryz.ntmps82
 go_wp2_with fail
 clear c0 c1 c2 c3 c4 c5 c6 c7 cf
 refine (Hq.out _ B1.out S1.out).mono ?_
 rintro e2 w2 ⟨rfl, hS2, hb2⟩
 have g2 := Lh ((Gr.refl w2).alloc (.cells #[.int .i64 0, .int .i64 0, .string ⟨#[]⟩, .string ⟨#[]⟩, .string ⟨#[]⟩, .int .i64 0] 42))
 have S2 := Lh (hS2.gr g2.out)
 have K2 := Lh ((g2.out.block _ (Nat.lt_of_lt_of_le (Ag K1.out).1 hb2.size)).trans ((hb2.block _ (Ag K1.out).1 (by omega) (by omega)).trans K1.out))
 have B2 := Lh ((B1.out.trans hb2).trans (Bt.of_gr g2.out))
 clear hS2 hb2 g2 S1 K1 B1
 go_wp2_with fail
 refine (Hh.out _ B2.out S2.out).mono ?_
 rintro e3 w3 ⟨rfl, hS3, hb3⟩
 have g3 := Lh ((Gr.refl w3).alloc (.cells #[.int .i64 0, .int .i64 0, .string ⟨#[]⟩, .string ⟨#[]⟩, .string ⟨#[]⟩, .int .i64 0] 42))
 have S3 := Lh (hS3.gr g3.out)
 have K3 := Lh ((g3.out.block _ (Nat.lt_of_lt_of_le (Ag K2.out).1 hb3.size)).trans ((hb3.block _ (Ag K2.out).1 (by omega) (by omega)).trans K2.out))
 have B3 := Lh ((B2.out.trans hb3).trans (Bt.of_gr g3.out))
 clear hS3 hb3 g3 S2 K2 B2
 go_wp2_with fail
 refine (Hv.out _ B3.out S3.out).mono ?_
 rintro e4 w4 ⟨rfl, hS4, hb4⟩
 have g4 := Lh ((Gr.refl w4).alloc (.cells #[.int .i64 0, .int .i64 0, .string ⟨#[]⟩, .string ⟨#[]⟩, .string ⟨#[]⟩, .int .i64 0] 42))
 have S4 := Lh (hS4.gr g4.out)
 have K4 := Lh ((g4.out.block _ (Nat.lt_of_lt_of_le (Ag K3.out).1 hb4.size)).trans ((hb4.block _ (Ag K3.out).1 (by omega) (by omega)).trans K3.out))
 have B4 := Lh ((B3.out.trans hb4).trans (Bt.of_gr g4.out))
 clear hS4 hb4 g4 S3 K3 B3
 obtain ⟨c0, c1, c2, c3, c4, c5, c6, c7, cf⟩ := S4.out.cells
 go_wp2_with fail
 go_quiet (fail)
 clear c0 c1 c2 c3 c4 c5 c6 c7 cf
 go_wp2_with fail
 refine (HA.out _).mono ?_
 rintro e wa ⟨rfl, rfl⟩
 go_wp2_with fail
 refine (HD.out _).mono ?_
 rintro e wa ⟨rfl, rfl⟩
 go_wp2_with fail
 refine (HR.out _ (B4.out.trans (Bt.of_gr ((Gr.refl _).drewN _))) (S4.out.gr ((Gr.refl _).drewN _))).mono ?_
 rintro e6 w6 ⟨M', b, rfl, hS6, hb6, hM6, hC⟩
 have S6 := Lh hS6
 have K6 := Lh ((hb6.block _ (Ag K4.out).1 (by omega) (by omega)).trans K4.out)
 have B6 := Lh ((B4.out.trans (Bt.of_gr ((Gr.refl _).drewN _))).trans hb6)
 have HM6 := Lh hM6
 have HC := Lh hC
 clear hS6 hb6 hM6 hC S4 K4 B4 HR
 go_wp2_with (refine wpList_store_tok rfl (.tmp 2) (.tmp 55) rfl (t := tk) rfl rfl K6.out rfl ?_)
 intro W9 hb9 hk9
 have B9 := Lh hb9
 have K9 := Lh hk9
 clear hb9 hk9
 go_wp2_with fail
 refine bodyPost_ret (results_tok rfl rfl K9.out) rfl ?_
 have hm := HM6.out
 exact ⟨M', b, rfl, S6.out.but B9.out (by omega) (by omega), B6.out.late (Nat.le_refl _) B9.out, hm, HC.out⟩
set_option maxRecDepth 100000 in
set_option maxHeartbeats 1000000 in
theorem tk_sign_f (h : Sc w P M s at_ en false tv bv ov) (hx : s.data.toList[at_]? = some x) (ha : alphaB x.toNat = false) (hd : digB x.toNat = false) (hr : ReadsG w 106 P M s at_ en false tv bv ov tk C) :
  Calls Tryz.prog 82 #[.pointer (some ⟨P, 0, none⟩)] w fun e w' => ∃ M' b, e = .returned tk.val ∧ Sc w' P M' s b en false tv bv ov ∧ Bt P M.blk w w' ∧ M'.blk = M.blk ∧ C M' b := by
 have hL : at_ < s.data.toList.length := (List.getElem?_eq_some_iff.1 hx).1
 have hat : at_ < s.size := by rw [sizeL] at hL; exact hL
 have ex : s[at_] = x := by rw [byteE s at_ hat hL]; exact (List.getElem?_eq_some_iff.1 hx).2
 have hat' : (at_ : Int) < (s.size : Int) := by omega
 have HA := Lh (fun w => alpha_p x.toNat w)
 rw [ha] at HA
 have HD := Lh (fun w => dig_p x.toNat w)
 rw [hd] at HD
 clear hx ha hd
 have HR := Lh hr
 unfold ReadsG at HR
 clear hr
 have hP : P < w.heap.size := h.lt.1
 have hM : M.blk < w.heap.size := h.lt.2
 obtain ⟨c0, c1, c2, c3, c4, c5, c6, c7, cf⟩ := (h.gr ((Gr.refl w).alloc (.cells #[.int .i64 0, .int .i64 0, .string ⟨#[]⟩, .string ⟨#[]⟩, .string ⟨#[]⟩, .int .i64 0] 42))).cells
 have S1 := Lh (h.gr ((Gr.refl w).alloc (.cells #[.int .i64 0, .int .i64 0, .string ⟨#[]⟩, .string ⟨#[]⟩, .string ⟨#[]⟩, .int .i64 0] 42)))
 have K1 : Hid ((w.alloc (.cells #[.int .i64 0, .int .i64 0, .string ⟨#[]⟩, .string ⟨#[]⟩, .string ⟨#[]⟩, .int .i64 0] 42)).heap[w.heap.size]? = some (.cells #[.int .i64 0, .int .i64 0, .string ⟨#[]⟩, .string ⟨#[]⟩, .string ⟨#[]⟩, .int .i64 0] 42 (0, 0))) := Lh (heap_alloc_new w _)
 have B1 : Hid (Bt P M.blk w (w.alloc (.cells #[.int .i64 0, .int .i64 0, .string ⟨#[]⟩, .string ⟨#[]⟩, .string ⟨#[]⟩, .int .i64 0] 42))) := Lh (Bt.of_gr ((Gr.refl w).alloc _))
 clear h
 go_enter Tryz.func82, Tryz.ntmps82
 go_wp2_with fail
 go_quiet (fail)
 clear c0 c1 c2 c3 c4 c5 c6 c7 cf
 go_wp2_with fail
 refine (HA.out _).mono ?_
 rintro e wa ⟨rfl, rfl⟩
 go_wp2_with fail
 refine (HD.out _).mono ?_
 rintro e wa ⟨rfl, rfl⟩
 go_wp2_with fail
 refine (HR.out _ (B1.out.trans (Bt.of_gr ((Gr.refl _).drewN _))) (S1.out.gr ((Gr.refl _).drewN _))).mono ?_
 rintro e6 w6 ⟨M', b, rfl, hS6, hb6, hM6, hC⟩
 have S6 := Lh hS6
 have K6 := Lh ((hb6.block _ (Ag K1.out).1 (by omega) (by omega)).trans K1.out)
 have B6 := Lh ((B1.out.trans (Bt.of_gr ((Gr.refl _).drewN _))).trans hb6)
 have HM6 := Lh hM6
 have HC := Lh hC
 clear hS6 hb6 hM6 hC S1 K1 B1 HR
 go_wp2_with (refine wpList_store_tok rfl (.tmp 2) (.tmp 55) rfl (t := tk) rfl rfl K6.out rfl ?_)
 intro W9 hb9 hk9
 have B9 := Lh hb9
 have K9 := Lh hk9
 clear hb9 hk9
 go_wp2_with fail
 refine bodyPost_ret (results_tok rfl rfl K9.out) rfl ?_
 have hm := HM6.out
 exact ⟨M', b, rfl, S6.out.but B9.out (by omega) (by omega), B6.out.late (Nat.le_refl _) B9.out, hm, HC.out⟩
set_option maxRecDepth 100000 in
set_option maxHeartbeats 1000000 in
theorem tk_quote_bad (h : Sc w P M s at_ en true tv bv ov) (hr : FailsG w 99 P M s at_ en true tv bv ov) :
  Calls Tryz.prog 82 #[.pointer (some ⟨P, 0, none⟩)] w fun e w' => Bad s e ∧ Bt P M.blk w w' := by
 have HR := Lh hr
 unfold FailsG at HR
 clear hr
 have hP : P < w.heap.size := h.lt.1
 have hM : M.blk < w.heap.size := h.lt.2
 obtain ⟨c0, c1, c2, c3, c4, c5, c6, c7, cf⟩ := (h.gr ((Gr.refl w).alloc (.cells #[.int .i64 0, .int .i64 0, .string ⟨#[]⟩, .string ⟨#[]⟩, .string ⟨#[]⟩, .int .i64 0] 42))).cells
 have S1 := Lh (h.gr ((Gr.refl w).alloc (.cells #[.int .i64 0, .int .i64 0, .string ⟨#[]⟩, .string ⟨#[]⟩, .string ⟨#[]⟩, .int .i64 0] 42)))
 have K1 : Hid ((w.alloc (.cells #[.int .i64 0, .int .i64 0, .string ⟨#[]⟩, .string ⟨#[]⟩, .string ⟨#[]⟩, .int .i64 0] 42)).heap[w.heap.size]? = some (.cells #[.int .i64 0, .int .i64 0, .string ⟨#[]⟩, .string ⟨#[]⟩, .string ⟨#[]⟩, .int .i64 0] 42 (0, 0))) := Lh (heap_alloc_new w _)
 have B1 : Hid (Bt P M.blk w (w.alloc (.cells #[.int .i64 0, .int .i64 0, .string ⟨#[]⟩, .string ⟨#[]⟩, .string ⟨#[]⟩, .int .i64 0] 42))) := Lh (Bt.of_gr ((Gr.refl w).alloc _))
 clear h
 go_enter Tryz.func82, Tryz.ntmps82
 go_wp2_with fail
 clear c0 c1 c2 c3 c4 c5 c6 c7 cf
 refine (HR.out _ B1.out S1.out).mono ?_
 rintro e6 w6 ⟨⟨q, hq, rfl⟩, hb6⟩
 go_wp2_with fail
 exact ⟨rfl, ⟨q, hq, rfl⟩, B1.out.trans hb6⟩
set_option maxRecDepth 100000 in
set_option maxHeartbeats 1000000 in
theorem tk_here_bad (h : Sc w P M s at_ en true tv bv ov) (hq : FindsN w 99 P M s at_ en true tv bv ov) (hr : FailsG w 100 P M s at_ en true tv bv ov) :
  Calls Tryz.prog 82 #[.pointer (some ⟨P, 0, none⟩)] w fun e w' => Bad s e ∧ Bt P M.blk w w' := by
 have HR := Lh hr
 unfold FailsG at HR
 clear hr
 have Hq := Lh hq
 unfold FindsN at Hq
 clear hq
 have hP : P < w.heap.size := h.lt.1
 have hM : M.blk < w.heap.size := h.lt.2
 obtain ⟨c0, c1, c2, c3, c4, c5, c6, c7, cf⟩ := (h.gr ((Gr.refl w).alloc (.cells #[.int .i64 0, .int .i64 0, .string ⟨#[]⟩, .string ⟨#[]⟩, .string ⟨#[]⟩, .int .i64 0] 42))).cells
 have S1 := Lh (h.gr ((Gr.refl w).alloc (.cells #[.int .i64 0, .int .i64 0, .string ⟨#[]⟩, .string ⟨#[]⟩, .string ⟨#[]⟩, .int .i64 0] 42)))
 have K1 : Hid ((w.alloc (.cells #[.int .i64 0, .int .i64 0, .string ⟨#[]⟩, .string ⟨#[]⟩, .string ⟨#[]⟩, .int .i64 0] 42)).heap[w.heap.size]? = some (.cells #[.int .i64 0, .int .i64 0, .string ⟨#[]⟩, .string ⟨#[]⟩, .string ⟨#[]⟩, .int .i64 0] 42 (0, 0))) := Lh (heap_alloc_new w _)
 have B1 : Hid (Bt P M.blk w (w.alloc (.cells #[.int .i64 0, .int .i64 0, .string ⟨#[]⟩, .string ⟨#[]⟩, .string ⟨#[]⟩, .int .i64 0] 42))) := Lh (Bt.of_gr ((Gr.refl w).alloc _))
 clear h
 go_enter Tryz.func82, Tryz.ntmps82
 go_wp2_with fail
 clear c0 c1 c2 c3 c4 c5 c6 c7 cf
 refine (Hq.out _ B1.out S1.out).mono ?_
 rintro e2 w2 ⟨rfl, hS2, hb2⟩
 have g2 := Lh ((Gr.refl w2).alloc (.cells #[.int .i64 0, .int .i64 0, .string ⟨#[]⟩, .string ⟨#[]⟩, .string ⟨#[]⟩, .int .i64 0] 42))
 have S2 := Lh (hS2.gr g2.out)
 have K2 := Lh ((g2.out.block _ (Nat.lt_of_lt_of_le (Ag K1.out).1 hb2.size)).trans ((hb2.block _ (Ag K1.out).1 (by omega) (by omega)).trans K1.out))
 have B2 := Lh ((B1.out.trans hb2).trans (Bt.of_gr g2.out))
 clear hS2 hb2 g2 S1 K1 B1
 go_wp2_with fail
 refine (HR.out _ B2.out S2.out).mono ?_
 rintro e6 w6 ⟨⟨q, hq, rfl⟩, hb6⟩
 go_wp2_with fail
 exact ⟨rfl, ⟨q, hq, rfl⟩, B2.out.trans hb6⟩
set_option maxRecDepth 100000 in
set_option maxHeartbeats 1000000 in
theorem tk_var_bad (h : Sc w P M s at_ en true tv bv ov) (hq : FindsN w 99 P M s at_ en true tv bv ov) (hh : FindsN w 100 P M s at_ en true tv bv ov) (hr : FailsG w 101 P M s at_ en true tv bv ov) :
  Calls Tryz.prog 82 #[.pointer (some ⟨P, 0, none⟩)] w fun e w' => Bad s e ∧ Bt P M.blk w w' := by
 have HR := Lh hr
 unfold FailsG at HR
 clear hr
 have Hq := Lh hq
 unfold FindsN at Hq
 clear hq
 have Hh := Lh hh
 unfold FindsN at Hh
 clear hh
 have hP : P < w.heap.size := h.lt.1
 have hM : M.blk < w.heap.size := h.lt.2
 obtain ⟨c0, c1, c2, c3, c4, c5, c6, c7, cf⟩ := (h.gr ((Gr.refl w).alloc (.cells #[.int .i64 0, .int .i64 0, .string ⟨#[]⟩, .string ⟨#[]⟩, .string ⟨#[]⟩, .int .i64 0] 42))).cells
 have S1 := Lh (h.gr ((Gr.refl w).alloc (.cells #[.int .i64 0, .int .i64 0, .string ⟨#[]⟩, .string ⟨#[]⟩, .string ⟨#[]⟩, .int .i64 0] 42)))
 have K1 : Hid ((w.alloc (.cells #[.int .i64 0, .int .i64 0, .string ⟨#[]⟩, .string ⟨#[]⟩, .string ⟨#[]⟩, .int .i64 0] 42)).heap[w.heap.size]? = some (.cells #[.int .i64 0, .int .i64 0, .string ⟨#[]⟩, .string ⟨#[]⟩, .string ⟨#[]⟩, .int .i64 0] 42 (0, 0))) := Lh (heap_alloc_new w _)
 have B1 : Hid (Bt P M.blk w (w.alloc (.cells #[.int .i64 0, .int .i64 0, .string ⟨#[]⟩, .string ⟨#[]⟩, .string ⟨#[]⟩, .int .i64 0] 42))) := Lh (Bt.of_gr ((Gr.refl w).alloc _))
 clear h
 go_enter Tryz.func82, Tryz.ntmps82
 go_wp2_with fail
 clear c0 c1 c2 c3 c4 c5 c6 c7 cf
 refine (Hq.out _ B1.out S1.out).mono ?_
 rintro e2 w2 ⟨rfl, hS2, hb2⟩
 have g2 := Lh ((Gr.refl w2).alloc (.cells #[.int .i64 0, .int .i64 0, .string ⟨#[]⟩, .string ⟨#[]⟩, .string ⟨#[]⟩, .int .i64 0] 42))
 have S2 := Lh (hS2.gr g2.out)
 have K2 := Lh ((g2.out.block _ (Nat.lt_of_lt_of_le (Ag K1.out).1 hb2.size)).trans ((hb2.block _ (Ag K1.out).1 (by omega) (by omega)).trans K1.out))
 have B2 := Lh ((B1.out.trans hb2).trans (Bt.of_gr g2.out))
 clear hS2 hb2 g2 S1 K1 B1
 go_wp2_with fail
 refine (Hh.out _ B2.out S2.out).mono ?_
 rintro e3 w3 ⟨rfl, hS3, hb3⟩
 have g3 := Lh ((Gr.refl w3).alloc (.cells #[.int .i64 0, .int .i64 0, .string ⟨#[]⟩, .string ⟨#[]⟩, .string ⟨#[]⟩, .int .i64 0] 42))
 have S3 := Lh (hS3.gr g3.out)
 have K3 := Lh ((g3.out.block _ (Nat.lt_of_lt_of_le (Ag K2.out).1 hb3.size)).trans ((hb3.block _ (Ag K2.out).1 (by omega) (by omega)).trans K2.out))
 have B3 := Lh ((B2.out.trans hb3).trans (Bt.of_gr g3.out))
 clear hS3 hb3 g3 S2 K2 B2
 go_wp2_with fail
 refine (HR.out _ B3.out S3.out).mono ?_
 rintro e6 w6 ⟨⟨q, hq, rfl⟩, hb6⟩
 go_wp2_with fail
 exact ⟨rfl, ⟨q, hq, rfl⟩, B3.out.trans hb6⟩
set_option maxRecDepth 100000 in
set_option maxHeartbeats 1000000 in
theorem tk_word_t_bad (h : Sc w P M s at_ en true tv bv ov) (hq : FindsN w 99 P M s at_ en true tv bv ov) (hh : FindsN w 100 P M s at_ en true tv bv ov) (hv : FindsN w 101 P M s at_ en true tv bv ov) (hx : s.data.toList[at_]? = some x) (ha : alphaB x.toNat = true) (hr : FailsG w 103 P M s at_ en true tv bv ov) :
  Calls Tryz.prog 82 #[.pointer (some ⟨P, 0, none⟩)] w fun e w' => Bad s e ∧ Bt P M.blk w w' := by
 have hL : at_ < s.data.toList.length := (List.getElem?_eq_some_iff.1 hx).1
 have hat : at_ < s.size := by rw [sizeL] at hL; exact hL
 have ex : s[at_] = x := by rw [byteE s at_ hat hL]; exact (List.getElem?_eq_some_iff.1 hx).2
 have hat' : (at_ : Int) < (s.size : Int) := by omega
 have HA := Lh (fun w => alpha_p x.toNat w)
 rw [ha] at HA
 clear hx ha
 have HR := Lh hr
 unfold FailsG at HR
 clear hr
 have Hq := Lh hq
 unfold FindsN at Hq
 clear hq
 have Hh := Lh hh
 unfold FindsN at Hh
 clear hh
 have Hv := Lh hv
 unfold FindsN at Hv
 clear hv
 have hP : P < w.heap.size := h.lt.1
 have hM : M.blk < w.heap.size := h.lt.2
 obtain ⟨c0, c1, c2, c3, c4, c5, c6, c7, cf⟩ := (h.gr ((Gr.refl w).alloc (.cells #[.int .i64 0, .int .i64 0, .string ⟨#[]⟩, .string ⟨#[]⟩, .string ⟨#[]⟩, .int .i64 0] 42))).cells
 have S1 := Lh (h.gr ((Gr.refl w).alloc (.cells #[.int .i64 0, .int .i64 0, .string ⟨#[]⟩, .string ⟨#[]⟩, .string ⟨#[]⟩, .int .i64 0] 42)))
 have K1 : Hid ((w.alloc (.cells #[.int .i64 0, .int .i64 0, .string ⟨#[]⟩, .string ⟨#[]⟩, .string ⟨#[]⟩, .int .i64 0] 42)).heap[w.heap.size]? = some (.cells #[.int .i64 0, .int .i64 0, .string ⟨#[]⟩, .string ⟨#[]⟩, .string ⟨#[]⟩, .int .i64 0] 42 (0, 0))) := Lh (heap_alloc_new w _)
 have B1 : Hid (Bt P M.blk w (w.alloc (.cells #[.int .i64 0, .int .i64 0, .string ⟨#[]⟩, .string ⟨#[]⟩, .string ⟨#[]⟩, .int .i64 0] 42))) := Lh (Bt.of_gr ((Gr.refl w).alloc _))
 clear h
 go_enter Tryz.func82, Tryz.ntmps82
 go_wp2_with fail
 clear c0 c1 c2 c3 c4 c5 c6 c7 cf
 refine (Hq.out _ B1.out S1.out).mono ?_
 rintro e2 w2 ⟨rfl, hS2, hb2⟩
 have g2 := Lh ((Gr.refl w2).alloc (.cells #[.int .i64 0, .int .i64 0, .string ⟨#[]⟩, .string ⟨#[]⟩, .string ⟨#[]⟩, .int .i64 0] 42))
 have S2 := Lh (hS2.gr g2.out)
 have K2 := Lh ((g2.out.block _ (Nat.lt_of_lt_of_le (Ag K1.out).1 hb2.size)).trans ((hb2.block _ (Ag K1.out).1 (by omega) (by omega)).trans K1.out))
 have B2 := Lh ((B1.out.trans hb2).trans (Bt.of_gr g2.out))
 clear hS2 hb2 g2 S1 K1 B1
 go_wp2_with fail
 refine (Hh.out _ B2.out S2.out).mono ?_
 rintro e3 w3 ⟨rfl, hS3, hb3⟩
 have g3 := Lh ((Gr.refl w3).alloc (.cells #[.int .i64 0, .int .i64 0, .string ⟨#[]⟩, .string ⟨#[]⟩, .string ⟨#[]⟩, .int .i64 0] 42))
 have S3 := Lh (hS3.gr g3.out)
 have K3 := Lh ((g3.out.block _ (Nat.lt_of_lt_of_le (Ag K2.out).1 hb3.size)).trans ((hb3.block _ (Ag K2.out).1 (by omega) (by omega)).trans K2.out))
 have B3 := Lh ((B2.out.trans hb3).trans (Bt.of_gr g3.out))
 clear hS3 hb3 g3 S2 K2 B2
 go_wp2_with fail
 refine (Hv.out _ B3.out S3.out).mono ?_
 rintro e4 w4 ⟨rfl, hS4, hb4⟩
 have g4 := Lh ((Gr.refl w4).alloc (.cells #[.int .i64 0, .int .i64 0, .string ⟨#[]⟩, .string ⟨#[]⟩, .string ⟨#[]⟩, .int .i64 0] 42))
 have S4 := Lh (hS4.gr g4.out)
 have K4 := Lh ((g4.out.block _ (Nat.lt_of_lt_of_le (Ag K3.out).1 hb4.size)).trans ((hb4.block _ (Ag K3.out).1 (by omega) (by omega)).trans K3.out))
 have B4 := Lh ((B3.out.trans hb4).trans (Bt.of_gr g4.out))
 clear hS4 hb4 g4 S3 K3 B3
 obtain ⟨c0, c1, c2, c3, c4, c5, c6, c7, cf⟩ := S4.out.cells
 go_wp2_with fail
 go_quiet (fail)
 clear c0 c1 c2 c3 c4 c5 c6 c7 cf
 go_wp2_with fail
 refine (HA.out _).mono ?_
 rintro e wa ⟨rfl, rfl⟩
 go_wp2_with fail
 refine (HR.out _ (B4.out.trans (Bt.of_gr ((Gr.refl _).drewN _))) (S4.out.gr ((Gr.refl _).drewN _))).mono ?_
 rintro e6 w6 ⟨⟨q, hq, rfl⟩, hb6⟩
 go_wp2_with fail
 exact ⟨rfl, ⟨q, hq, rfl⟩, (B4.out.trans (Bt.of_gr ((Gr.refl _).drewN _))).trans hb6⟩
set_option maxRecDepth 100000 in
set_option maxHeartbeats 1000000 in
theorem tk_word_f_bad (h : Sc w P M s at_ en false tv bv ov) (hx : s.data.toList[at_]? = some x) (ha : alphaB x.toNat = true) (hr : FailsG w 103 P M s at_ en false tv bv ov) :
  Calls Tryz.prog 82 #[.pointer (some ⟨P, 0, none⟩)] w fun e w' => Bad s e ∧ Bt P M.blk w w' := by
 have hL : at_ < s.data.toList.length := (List.getElem?_eq_some_iff.1 hx).1
 have hat : at_ < s.size := by rw [sizeL] at hL; exact hL
 have ex : s[at_] = x := by rw [byteE s at_ hat hL]; exact (List.getElem?_eq_some_iff.1 hx).2
 have hat' : (at_ : Int) < (s.size : Int) := by omega
 have HA := Lh (fun w => alpha_p x.toNat w)
 rw [ha] at HA
 clear hx ha
 have HR := Lh hr
 unfold FailsG at HR
 clear hr
 have hP : P < w.heap.size := h.lt.1
 have hM : M.blk < w.heap.size := h.lt.2
 obtain ⟨c0, c1, c2, c3, c4, c5, c6, c7, cf⟩ := (h.gr ((Gr.refl w).alloc (.cells #[.int .i64 0, .int .i64 0, .string ⟨#[]⟩, .string ⟨#[]⟩, .string ⟨#[]⟩, .int .i64 0] 42))).cells
 have S1 := Lh (h.gr ((Gr.refl w).alloc (.cells #[.int .i64 0, .int .i64 0, .string ⟨#[]⟩, .string ⟨#[]⟩, .string ⟨#[]⟩, .int .i64 0] 42)))
 have K1 : Hid ((w.alloc (.cells #[.int .i64 0, .int .i64 0, .string ⟨#[]⟩, .string ⟨#[]⟩, .string ⟨#[]⟩, .int .i64 0] 42)).heap[w.heap.size]? = some (.cells #[.int .i64 0, .int .i64 0, .string ⟨#[]⟩, .string ⟨#[]⟩, .string ⟨#[]⟩, .int .i64 0] 42 (0, 0))) := Lh (heap_alloc_new w _)
 have B1 : Hid (Bt P M.blk w (w.alloc (.cells #[.int .i64 0, .int .i64 0, .string ⟨#[]⟩, .string ⟨#[]⟩, .string ⟨#[]⟩, .int .i64 0] 42))) := Lh (Bt.of_gr ((Gr.refl w).alloc _))
 clear h
 go_enter Tryz.func82, Tryz.ntmps82
 go_wp2_with fail
 go_quiet (fail)
 clear c0 c1 c2 c3 c4 c5 c6 c7 cf
 go_wp2_with fail
 refine (HA.out _).mono ?_
 rintro e wa ⟨rfl, rfl⟩
 go_wp2_with fail
 refine (HR.out _ (B1.out.trans (Bt.of_gr ((Gr.refl _).drewN _))) (S1.out.gr ((Gr.refl _).drewN _))).mono ?_
 rintro e6 w6 ⟨⟨q, hq, rfl⟩, hb6⟩
 go_wp2_with fail
 exact ⟨rfl, ⟨q, hq, rfl⟩, (B1.out.trans (Bt.of_gr ((Gr.refl _).drewN _))).trans hb6⟩
set_option maxRecDepth 100000 in
set_option maxHeartbeats 1000000 in
theorem tk_sign_t_bad (h : Sc w P M s at_ en true tv bv ov) (hq : FindsN w 99 P M s at_ en true tv bv ov) (hh : FindsN w 100 P M s at_ en true tv bv ov) (hv : FindsN w 101 P M s at_ en true tv bv ov) (hx : s.data.toList[at_]? = some x) (ha : alphaB x.toNat = false) (hd : digB x.toNat = false) (hr : FailsG w 106 P M s at_ en true tv bv ov) :
  Calls Tryz.prog 82 #[.pointer (some ⟨P, 0, none⟩)] w fun e w' => Bad s e ∧ Bt P M.blk w w' := by
 have hL : at_ < s.data.toList.length := (List.getElem?_eq_some_iff.1 hx).1
 have hat : at_ < s.size := by rw [sizeL] at hL; exact hL
 have ex : s[at_] = x := by rw [byteE s at_ hat hL]; exact (List.getElem?_eq_some_iff.1 hx).2
 have hat' : (at_ : Int) < (s.size : Int) := by omega
 have HA := Lh (fun w => alpha_p x.toNat w)
 rw [ha] at HA
 have HD := Lh (fun w => dig_p x.toNat w)
 rw [hd] at HD
 clear hx ha hd
 have HR := Lh hr
 unfold FailsG at HR
 clear hr
 have Hq := Lh hq
 unfold FindsN at Hq
 clear hq
 have Hh := Lh hh
 unfold FindsN at Hh
 clear hh
 have Hv := Lh hv
 unfold FindsN at Hv
 clear hv
 have hP : P < w.heap.size := h.lt.1
 have hM : M.blk < w.heap.size := h.lt.2
 obtain ⟨c0, c1, c2, c3, c4, c5, c6, c7, cf⟩ := (h.gr ((Gr.refl w).alloc (.cells #[.int .i64 0, .int .i64 0, .string ⟨#[]⟩, .string ⟨#[]⟩, .string ⟨#[]⟩, .int .i64 0] 42))).cells
 have S1 := Lh (h.gr ((Gr.refl w).alloc (.cells #[.int .i64 0, .int .i64 0, .string ⟨#[]⟩, .string ⟨#[]⟩, .string ⟨#[]⟩, .int .i64 0] 42)))
 have K1 : Hid ((w.alloc (.cells #[.int .i64 0, .int .i64 0, .string ⟨#[]⟩, .string ⟨#[]⟩, .string ⟨#[]⟩, .int .i64 0] 42)).heap[w.heap.size]? = some (.cells #[.int .i64 0, .int .i64 0, .string ⟨#[]⟩, .string ⟨#[]⟩, .string ⟨#[]⟩, .int .i64 0] 42 (0, 0))) := Lh (heap_alloc_new w _)
 have B1 : Hid (Bt P M.blk w (w.alloc (.cells #[.int .i64 0, .int .i64 0, .string ⟨#[]⟩, .string ⟨#[]⟩, .string ⟨#[]⟩, .int .i64 0] 42))) := Lh (Bt.of_gr ((Gr.refl w).alloc _))
 clear h
 go_enter Tryz.func82, Tryz.ntmps82
 go_wp2_with fail
 clear c0 c1 c2 c3 c4 c5 c6 c7 cf
 refine (Hq.out _ B1.out S1.out).mono ?_
 rintro e2 w2 ⟨rfl, hS2, hb2⟩
 have g2 := Lh ((Gr.refl w2).alloc (.cells #[.int .i64 0, .int .i64 0, .string ⟨#[]⟩, .string ⟨#[]⟩, .string ⟨#[]⟩, .int .i64 0] 42))
 have S2 := Lh (hS2.gr g2.out)
 have K2 := Lh ((g2.out.block _ (Nat.lt_of_lt_of_le (Ag K1.out).1 hb2.size)).trans ((hb2.block _ (Ag K1.out).1 (by omega) (by omega)).trans K1.out))
 have B2 := Lh ((B1.out.trans hb2).trans (Bt.of_gr g2.out))
 clear hS2 hb2 g2 S1 K1 B1
 go_wp2_with fail
 refine (Hh.out _ B2.out S2.out).mono ?_
 rintro e3 w3 ⟨rfl, hS3, hb3⟩
 have g3 := Lh ((Gr.refl w3).alloc (.cells #[.int .i64 0, .int .i64 0, .string ⟨#[]⟩, .string ⟨#[]⟩, .string ⟨#[]⟩, .int .i64 0] 42))
 have S3 := Lh (hS3.gr g3.out)
 have K3 := Lh ((g3.out.block _ (Nat.lt_of_lt_of_le (Ag K2.out).1 hb3.size)).trans ((hb3.block _ (Ag K2.out).1 (by omega) (by omega)).trans K2.out))
 have B3 := Lh ((B2.out.trans hb3).trans (Bt.of_gr g3.out))
 clear hS3 hb3 g3 S2 K2 B2
 go_wp2_with fail
 refine (Hv.out _ B3.out S3.out).mono ?_
 rintro e4 w4 ⟨rfl, hS4, hb4⟩
 have g4 := Lh ((Gr.refl w4).alloc (.cells #[.int .i64 0, .int .i64 0, .string ⟨#[]⟩, .string ⟨#[]⟩, .string ⟨#[]⟩, .int .i64 0] 42))
 have S4 := Lh (hS4.gr g4.out)
 have K4 := Lh ((g4.out.block _ (Nat.lt_of_lt_of_le (Ag K3.out).1 hb4.size)).trans ((hb4.block _ (Ag K3.out).1 (by omega) (by omega)).trans K3.out))
 have B4 := Lh ((B3.out.trans hb4).trans (Bt.of_gr g4.out))
 clear hS4 hb4 g4 S3 K3 B3
 obtain ⟨c0, c1, c2, c3, c4, c5, c6, c7, cf⟩ := S4.out.cells
 go_wp2_with fail
 go_quiet (fail)
 clear c0 c1 c2 c3 c4 c5 c6 c7 cf
 go_wp2_with fail
 refine (HA.out _).mono ?_
 rintro e wa ⟨rfl, rfl⟩
 go_wp2_with fail
 refine (HD.out _).mono ?_
 rintro e wa ⟨rfl, rfl⟩
 go_wp2_with fail
 refine (HR.out _ (B4.out.trans (Bt.of_gr ((Gr.refl _).drewN _))) (S4.out.gr ((Gr.refl _).drewN _))).mono ?_
 rintro e6 w6 ⟨⟨q, hq, rfl⟩, hb6⟩
 go_wp2_with fail
 exact ⟨rfl, ⟨q, hq, rfl⟩, (B4.out.trans (Bt.of_gr ((Gr.refl _).drewN _))).trans hb6⟩
set_option maxRecDepth 100000 in
set_option maxHeartbeats 1000000 in
theorem tk_sign_f_bad (h : Sc w P M s at_ en false tv bv ov) (hx : s.data.toList[at_]? = some x) (ha : alphaB x.toNat = false) (hd : digB x.toNat = false) (hr : FailsG w 106 P M s at_ en false tv bv ov) :
  Calls Tryz.prog 82 #[.pointer (some ⟨P, 0, none⟩)] w fun e w' => Bad s e ∧ Bt P M.blk w w' := by
 have hL : at_ < s.data.toList.length := (List.getElem?_eq_some_iff.1 hx).1
 have hat : at_ < s.size := by rw [sizeL] at hL; exact hL
 have ex : s[at_] = x := by rw [byteE s at_ hat hL]; exact (List.getElem?_eq_some_iff.1 hx).2
 have hat' : (at_ : Int) < (s.size : Int) := by omega
 have HA := Lh (fun w => alpha_p x.toNat w)
 rw [ha] at HA
 have HD := Lh (fun w => dig_p x.toNat w)
 rw [hd] at HD
 clear hx ha hd
 have HR := Lh hr
 unfold FailsG at HR
 clear hr
 have hP : P < w.heap.size := h.lt.1
 have hM : M.blk < w.heap.size := h.lt.2
 obtain ⟨c0, c1, c2, c3, c4, c5, c6, c7, cf⟩ := (h.gr ((Gr.refl w).alloc (.cells #[.int .i64 0, .int .i64 0, .string ⟨#[]⟩, .string ⟨#[]⟩, .string ⟨#[]⟩, .int .i64 0] 42))).cells
 have S1 := Lh (h.gr ((Gr.refl w).alloc (.cells #[.int .i64 0, .int .i64 0, .string ⟨#[]⟩, .string ⟨#[]⟩, .string ⟨#[]⟩, .int .i64 0] 42)))
 have K1 : Hid ((w.alloc (.cells #[.int .i64 0, .int .i64 0, .string ⟨#[]⟩, .string ⟨#[]⟩, .string ⟨#[]⟩, .int .i64 0] 42)).heap[w.heap.size]? = some (.cells #[.int .i64 0, .int .i64 0, .string ⟨#[]⟩, .string ⟨#[]⟩, .string ⟨#[]⟩, .int .i64 0] 42 (0, 0))) := Lh (heap_alloc_new w _)
 have B1 : Hid (Bt P M.blk w (w.alloc (.cells #[.int .i64 0, .int .i64 0, .string ⟨#[]⟩, .string ⟨#[]⟩, .string ⟨#[]⟩, .int .i64 0] 42))) := Lh (Bt.of_gr ((Gr.refl w).alloc _))
 clear h
 go_enter Tryz.func82, Tryz.ntmps82
 go_wp2_with fail
 go_quiet (fail)
 clear c0 c1 c2 c3 c4 c5 c6 c7 cf
 go_wp2_with fail
 refine (HA.out _).mono ?_
 rintro e wa ⟨rfl, rfl⟩
 go_wp2_with fail
 refine (HD.out _).mono ?_
 rintro e wa ⟨rfl, rfl⟩
 go_wp2_with fail
 refine (HR.out _ (B1.out.trans (Bt.of_gr ((Gr.refl _).drewN _))) (S1.out.gr ((Gr.refl _).drewN _))).mono ?_
 rintro e6 w6 ⟨⟨q, hq, rfl⟩, hb6⟩
 go_wp2_with fail
 exact ⟨rfl, ⟨q, hq, rfl⟩, (B1.out.trans (Bt.of_gr ((Gr.refl _).drewN _))).trans hb6⟩
end Go.Proofs.YthmopindibdhnaaGreatDoor.G
namespace Go.Proofs.YthmopindibdhnaaGreatDoor.G
open Go.RowKit Go.Shelf Go.Maps
def ba (l : List UInt8) : ByteArray := ⟨l.toArray⟩
def textP (t : RTok) : List UInt8 := if t.form = 0 then t.raw else if t.form = 1 then plL t.o t.raw else if t.form = 2 then inL t.o t.raw else if t.form = 3 then wordsP (plL t.o t.raw) else if t.form = 4 then wsL t.raw else if t.form = 5 then wsL t.raw else if t.form = 6 then plL t.o t.raw else inL 34 t.raw
def replP (t : RTok) : List UInt8 := if t.form = 5 then wsL (inL t.o2 t.raw2) else if t.form = 6 then plL t.o2 t.raw2 else []
def rend0 (t : RTok) : Tok := ⟨t.kind, 0, ba (textP t), ba (replP t), ba t.more, 0⟩
variable {w w' : World} {P : Nat} {M : GoMap} {s : ByteArray} {at_ en : Nat} {tm : Bool} {tv bv ov : Value}
def Behind (l : List UInt8) (M : GoMap) (a : Nat) (R2 : Src) (M' : GoMap) (b : Nat) : Prop :=
 R2 = rest l M'.J b ∧ a < b ∧ b ≤ l.length ∧ JOk l M'.J ∧ JPast l M'.J b ∧ M'.n ≤ M.n + 1
def TokP (s : ByteArray) (P : Nat) (M : GoMap) (en : Nat) (tm : Bool) (tv bv ov : Value) (a : Nat) (w : World) (X : Option (RTok × Src)) (e : Ending) (w' : World) : Prop :=
 match X with
 | none => Bad s e ∧ Bt P M.blk w w'
 | some r => ∃ M' b, e = .returned (rend0 r.1).val ∧ Sc w' P M' s b en tm tv bv ov ∧ Bt P M.blk w w' ∧ M'.blk = M.blk ∧ Behind s.data.toList M a r.2 M' b
theorem quoteL_some {X : List UInt8} {k : Int} {n : Nat} (h : quoteL X = some (k, n)) : (∃ c, X[n]? = some c ∧ delimB c.toNat = true) ∧ (k = 4 ∨ k = 5 ∨ k = 6 ∨ k = 7 ∨ k = 8 ∨ k = 9) := by
 unfold quoteL at h
 cases e : X[wordN X]? with
 | none => rw [e] at h; cases h
 | some c =>
  rw [e] at h
  simp only at h
  split at h
  ·rename_i hd
   cases hk : kindL (wordOr X) with
   | none => rw [hk] at h; cases h
   | some kk =>
    rw [hk] at h
    simp only [Option.map_some, Option.some.injEq, Prod.mk.injEq] at h
    obtain ⟨rfl, rfl⟩ := h
    refine ⟨⟨c, e, hd⟩, ?_⟩
    unfold kindL at hk
    split at hk
    ·cases hk; simp
    ·split at hk
     ·cases hk; simp
     ·split at hk
      ·cases hk; simp
      ·split at hk
       ·cases hk; simp
       ·split at hk
        ·cases hk; simp
        ·split at hk
         ·cases hk; simp
         ·cases hk
  ·cases h
theorem nx_plain {l : List UInt8} {J : Nat → Option Nat} {a : Nat} {c : UInt8} (hJ : JOk l J) (hc : l[a]? = some c) (h10 : c ≠ 10) : nx J a = a + 1 := by
 unfold nx
 cases e : J a with
 | none => rfl
 | some v =>
  have := hJ.nl a v e
  rw [hc] at this
  exact absurd (Option.some.inj this) h10
theorem as_is (hJ : JOk s.data.toList M.J) (hPa : JPast s.data.toList M.J at_) (hat : at_ ≤ s.data.toList.length) {k n : Nat} (h0 : 0 < n) (hn : n ≤ (lineOf s.data.toList at_).length) :
  rend0 (asIs k n (rest s.data.toList M.J at_)).1 = tok k (s.extract at_ (at_ + n)) ∧ Behind s.data.toList M at_ (asIs k n (rest s.data.toList M.J at_)).2 M (at_ + n) := by
 obtain ⟨h1, h2⟩ := line3 hJ at_ hat
 have hll := line_le s.data.toList at_ hat
 refine ⟨?_, h2 n hn, by omega, by omega, hJ, hPa.mono (by omega), by omega⟩
 have : rend0 (asIs k n (rest s.data.toList M.J at_)).1 = tok k (ba ((byt (rest s.data.toList M.J at_)).take n)) := rfl
 rw [this, ba_ext, take_line h1 hn]
 rfl
section
variable {w0 : World} {K : Nat} {tk : Tok}
theorem finds_of {C : GoMap → Nat → Prop} {a b : Nat} (h : ∀ W, Sc W P M s a en tm tv bv ov → Calls Tryz.prog K #[.pointer (some ⟨P, 0, none⟩)] W fun e w' => e = .returned (.tuple #[tk.val, .bool true]) ∧ Sc w' P M s b en tm tv bv ov ∧ But P W w') (hC : C M b) : FindsG w0 K P M s a en tm tv bv ov tk C :=
 fun W _ hS => (h W hS).mono fun _ _ ⟨h1, h2, h3⟩ => ⟨M, b, h1, h2, Bt.of_but h3, rfl, hC⟩
theorem reads_of {C : GoMap → Nat → Prop} {a b : Nat} (h : ∀ W, Sc W P M s a en tm tv bv ov → Calls Tryz.prog K #[.pointer (some ⟨P, 0, none⟩)] W fun e w' => e = .returned tk.val ∧ Sc w' P M s b en tm tv bv ov ∧ But P W w') (hC : C M b) : ReadsG w0 K P M s a en tm tv bv ov tk C :=
 fun W _ hS => (h W hS).mono fun _ _ ⟨h1, h2, h3⟩ => ⟨M, b, h1, h2, Bt.of_but h3, rfl, hC⟩
theorem none_of {a : Nat} (h : ∀ W, Sc W P M s a en tm tv bv ov → Calls Tryz.prog K #[.pointer (some ⟨P, 0, none⟩)] W fun e w' => e = .returned (.tuple #[tok0.val, .bool false]) ∧ Sc w' P M s a en tm tv bv ov ∧ But P W w') : FindsN w0 K P M s a en tm tv bv ov :=
 fun W _ hS => (h W hS).mono fun _ _ ⟨h1, h2, h3⟩ => ⟨h1, h2, Bt.of_but h3⟩
theorem fails_of {a : Nat} (h : ∀ W, Sc W P M s a en tm tv bv ov → Calls Tryz.prog K #[.pointer (some ⟨P, 0, none⟩)] W fun e w' => Bad s e ∧ But P W w') : FailsG w0 K P M s a en tm tv bv ov :=
 fun W _ hS => (h W hS).mono fun _ _ ⟨h1, h3⟩ => ⟨h1, Bt.of_but h3⟩
end
theorem digR_off (l : List UInt8) (a : Nat) : ∀ f n g, l.length ≤ a + n + f → (l.drop a).length ≤ n + g → digR l f (a + n) = a + digR (l.drop a) g n
 | 0, n, g, hf, _ => by rw [digR_end (by omega), digR_end (by rw [List.length_drop]; omega)]
 | f + 1, n, g, hf, hg => by
  by_cases hn : a + n < l.length
  ·have hd : n < (l.drop a).length := by rw [List.length_drop]; omega
   have he : (l.drop a)[n] = l[a + n] := by rw [List.getElem_drop]
   by_cases hc : digB l[a + n].toNat = true
   ·cases g with
    | zero => omega
    | succ g =>
     rw [digR, digR, List.getElem?_eq_getElem hn, List.getElem?_eq_getElem hd]
     simp only [he, hc, if_true]
     exact digR_off l a f (n + 1) g (by omega) (by omega)
   ·have hc' : digB l[a + n].toNat = false := by simpa using hc
    rw [digR_stop hn hc', digR_stop hd (by rw [he]; exact hc')]
  ·rw [digR_end (by omega), digR_end (by rw [List.length_drop]; omega)]
theorem digR_ge (l : List UInt8) : ∀ f n, n ≤ digR l f n
 | 0, n => Nat.le_refl n
 | f + 1, n => by
  rw [digR]
  split
  ·exact Nat.le_refl n
  ·split
   ·have := digR_ge l f (n + 1); omega
   ·exact Nat.le_refl n
theorem plain_tok (hs : s.size ≤ 4000) (hJ : JOk s.data.toList M.J) (hPa : JPast s.data.toList M.J at_) (x : UInt8) (hx : s.data.toList[at_]? = some x) :
  (alphaB x.toNat = true → (wordN (s.data.toList.drop at_) ≤ 12 → plainS (rest s.data.toList M.J at_) tm = some (asIs 0 (wordN (s.data.toList.drop at_)) (rest s.data.toList M.J at_)) ∧ ReadsG w 103 P M s at_ en tm tv bv ov (tok 0 (s.extract at_ (at_ + wordN (s.data.toList.drop at_)))) (Behind s.data.toList M at_ (asIs 0 (wordN (s.data.toList.drop at_)) (rest s.data.toList M.J at_)).2)) ∧
   (12 < wordN (s.data.toList.drop at_) → plainS (rest s.data.toList M.J at_) tm = none ∧ FailsG w 103 P M s at_ en tm tv bv ov)) := by
 have hL : at_ < s.data.toList.length := (List.getElem?_eq_some_iff.1 hx).1
 have hat : at_ < s.size := by rw [sizeL] at hL; exact hL
 obtain ⟨h1, h2⟩ := line3 hJ at_ (by omega)
 obtain ⟨e1, e2⟩ := word_line h1
 have hr := rest_cons hJ hL
 have hxe : s.data.toList[at_] = x := (List.getElem?_eq_some_iff.1 hx).2
 intro ha
 have hpl : plainS (rest s.data.toList M.J at_) tm = if wordN (byt (rest s.data.toList M.J at_)) ≤ 12 then some (asIs 0 (wordN (byt (rest s.data.toList M.J at_))) (rest s.data.toList M.J at_)) else none := by
  conv => lhs; rw [hr]
  unfold plainS
  simp only [hxe, ha, if_true]
  rw [← hxe, ← hr]
 rw [hpl, ← e1]
 have h0 : 0 < wordN (s.data.toList.drop at_) := by
  have hd : 0 < (s.data.toList.drop at_).length := by rw [List.length_drop]; omega
  have hdx : (s.data.toList.drop at_)[0] = x := by rw [List.getElem_drop]; exact hxe
  rw [wordN_yes hd (by rw [hdx]; exact ha)]
  have := (wordR_le (l := s.data.toList.drop at_) (s.data.toList.drop at_).length 1 hd).2
  omega
 refine ⟨fun h12 => ?_, fun h12 => ?_⟩
 ·rw [if_pos h12]
  exact ⟨rfl, reads_of (fun W hS => word_m hS (by omega) _ rfl h12 (by omega)) (as_is hJ hPa (by omega) h0 e2).2⟩
 ·rw [if_neg (by omega)]
  exact ⟨rfl, fails_of fun W hS => word_bad hS hat h12 (by omega)⟩
end Go.Proofs.YthmopindibdhnaaGreatDoor.G
