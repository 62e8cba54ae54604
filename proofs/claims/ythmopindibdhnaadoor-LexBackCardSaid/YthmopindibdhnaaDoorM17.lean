/- GToken -/
import Derived.Test.YthmopindibdhnaaDoorM16
import Derived.Test.YthmopindibdhnaaDoorM05
namespace Go.Proofs.YthmopindibdhnaaDoor.G
open Go.RowKit Go.Shelf Go.Maps
/-- a method reads a token, and what is then true of the map and the place -/
def ReadsG (w0 : World) (K : Nat) (P : Nat) (M : GoMap) (s : ByteArray) (a en : Nat) (tm : Bool) (tv bv ov : Value) (tk : Tok) (C : GoMap → Nat → Prop) : Prop :=
  ∀ W, Bt P M.blk w0 W → Sc W P M s a en tm tv bv ov → Calls Tryd.prog K #[.pointer (some ⟨P, 0, none⟩)] W fun e w' => ∃ M' b, e = .returned (.agg #[.int .i64 tk.kind, .int .i64 tk.place, .string tk.text, .string tk.repl, .string tk.more, .int .i64 tk.opn]) ∧ Sc w' P M' s b en tm tv bv ov ∧ Bt P M.blk W w' ∧ M'.blk = M.blk ∧ C M' b
def FindsG (w0 : World) (K : Nat) (P : Nat) (M : GoMap) (s : ByteArray) (a en : Nat) (tm : Bool) (tv bv ov : Value) (tk : Tok) (C : GoMap → Nat → Prop) : Prop :=
  ∀ W, Bt P M.blk w0 W → Sc W P M s a en tm tv bv ov → Calls Tryd.prog K #[.pointer (some ⟨P, 0, none⟩)] W fun e w' => ∃ M' b, e = .returned (.tuple #[.agg #[.int .i64 tk.kind, .int .i64 tk.place, .string tk.text, .string tk.repl, .string tk.more, .int .i64 tk.opn], .bool true]) ∧ Sc w' P M' s b en tm tv bv ov ∧ Bt P M.blk W w' ∧ M'.blk = M.blk ∧ C M' b
def FindsN (w0 : World) (K : Nat) (P : Nat) (M : GoMap) (s : ByteArray) (a en : Nat) (tm : Bool) (tv bv ov : Value) : Prop :=
  ∀ W, Bt P M.blk w0 W → Sc W P M s a en tm tv bv ov → Calls Tryd.prog K #[.pointer (some ⟨P, 0, none⟩)] W fun e w' => e = .returned (.tuple #[.agg #[.int .i64 0, .int .i64 0, .string ⟨#[]⟩, .string ⟨#[]⟩, .string ⟨#[]⟩, .int .i64 0], .bool false]) ∧ Sc w' P M s a en tm tv bv ov ∧ Bt P M.blk W w'
def FailsG (w0 : World) (K : Nat) (P : Nat) (M : GoMap) (s : ByteArray) (a en : Nat) (tm : Bool) (tv bv ov : Value) : Prop :=
  ∀ W, Bt P M.blk w0 W → Sc W P M s a en tm tv bv ov → Calls Tryd.prog K #[.pointer (some ⟨P, 0, none⟩)] W fun e w' => Bad s e ∧ Bt P M.blk W w'
variable {w w' : World} {P : Nat} {M : GoMap} {s : ByteArray} {at_ en : Nat} {tm : Bool} {tv bv ov : Value} {tk : Tok} {C : GoMap → Nat → Prop} {x : UInt8}
set_option maxRecDepth 100000 in
set_option maxHeartbeats 1000000 in
theorem tk_quote (h : Sc w P M s at_ en true tv bv ov) (hr : FindsG w 39 P M s at_ en true tv bv ov tk C) :
    Calls Tryd.prog 34 #[.pointer (some ⟨P, 0, none⟩)] w fun e w' => ∃ M' b, e = .returned tk.val ∧ Sc w' P M' s b en true tv bv ov ∧ Bt P M.blk w w' ∧ M'.blk = M.blk ∧ C M' b := by
  have HR := Lib.hid hr
  unfold FindsG at HR
  clear hr
  have hP : P < w.heap.size := h.lt.1
  have hM : M.blk < w.heap.size := h.lt.2
  obtain ⟨c0, c1, c2, c3, c4, c5, c6, c7, cf⟩ := (h.gr ((Gr.refl w).alloc (.cells #[.int .i64 0, .int .i64 0, .string ⟨#[]⟩, .string ⟨#[]⟩, .string ⟨#[]⟩, .int .i64 0] 32))).cells
  have S1 := Lib.hid (h.gr ((Gr.refl w).alloc (.cells #[.int .i64 0, .int .i64 0, .string ⟨#[]⟩, .string ⟨#[]⟩, .string ⟨#[]⟩, .int .i64 0] 32)))
  have K1 : Hid ((w.alloc (.cells #[.int .i64 0, .int .i64 0, .string ⟨#[]⟩, .string ⟨#[]⟩, .string ⟨#[]⟩, .int .i64 0] 32)).heap[w.heap.size]? = some (.cells #[.int .i64 0, .int .i64 0, .string ⟨#[]⟩, .string ⟨#[]⟩, .string ⟨#[]⟩, .int .i64 0] 32 (0, 0))) := Lib.hid (heap_alloc_new w _)
  have B1 : Hid (Bt P M.blk w (w.alloc (.cells #[.int .i64 0, .int .i64 0, .string ⟨#[]⟩, .string ⟨#[]⟩, .string ⟨#[]⟩, .int .i64 0] 32))) := Lib.hid (Bt.of_gr ((Gr.refl w).alloc _))
  clear h
  go_enter Tryd.func34, Tryd.ntmps34
  go_wp2_with fail
  clear c0 c1 c2 c3 c4 c5 c6 c7 cf
  refine (HR.out _ B1.out S1.out).mono ?_
  rintro e6 w6 ⟨M', b, rfl, hS6, hb6, hM6, hC⟩
  have g6 := Lib.hid ((Gr.refl w6).alloc (.cells #[.int .i64 tk.kind, .int .i64 tk.place, .string tk.text, .string tk.repl, .string tk.more, .int .i64 tk.opn] 32))
  have S6 := Lib.hid (hS6.gr g6.out)
  have K6 := Lib.hid ((g6.out.block _ (Nat.lt_of_lt_of_le (Array.getElem?_eq_some_iff.1 K1.out).1 hb6.size)).trans ((hb6.block _ (Array.getElem?_eq_some_iff.1 K1.out).1 (by omega) (by omega)).trans K1.out))
  have B6 := Lib.hid ((B1.out.trans hb6).trans (Bt.of_gr g6.out))
  have HM6 := Lib.hid hM6
  have HC := Lib.hid hC
  clear hS6 hb6 hM6 hC S1 K1 B1 HR
  go_wp2_with (refine wpList_store_tok rfl (.tmp 2) (.tmp 20) rfl (t := tk) rfl rfl K6.out rfl ?_)
  intro W9 hb9 hk9
  have B9 := Lib.hid hb9
  have K9 := Lib.hid hk9
  clear hb9 hk9
  go_wp2_with fail
  refine bodyPost_ret (results_tok rfl rfl K9.out) rfl ?_
  have hm := HM6.out
  exact ⟨M', b, rfl, S6.out.but B9.out (by omega) (by omega), B6.out.late (Nat.le_refl _) B9.out, hm, HC.out⟩
set_option maxRecDepth 100000 in
set_option maxHeartbeats 1000000 in
theorem tk_here (h : Sc w P M s at_ en true tv bv ov) (hq : FindsN w 39 P M s at_ en true tv bv ov) (hr : FindsG w 40 P M s at_ en true tv bv ov tk C) :
    Calls Tryd.prog 34 #[.pointer (some ⟨P, 0, none⟩)] w fun e w' => ∃ M' b, e = .returned tk.val ∧ Sc w' P M' s b en true tv bv ov ∧ Bt P M.blk w w' ∧ M'.blk = M.blk ∧ C M' b := by
  have HR := Lib.hid hr
  unfold FindsG at HR
  clear hr
  have Hq := Lib.hid hq
  unfold FindsN at Hq
  clear hq
  have hP : P < w.heap.size := h.lt.1
  have hM : M.blk < w.heap.size := h.lt.2
  obtain ⟨c0, c1, c2, c3, c4, c5, c6, c7, cf⟩ := (h.gr ((Gr.refl w).alloc (.cells #[.int .i64 0, .int .i64 0, .string ⟨#[]⟩, .string ⟨#[]⟩, .string ⟨#[]⟩, .int .i64 0] 32))).cells
  have S1 := Lib.hid (h.gr ((Gr.refl w).alloc (.cells #[.int .i64 0, .int .i64 0, .string ⟨#[]⟩, .string ⟨#[]⟩, .string ⟨#[]⟩, .int .i64 0] 32)))
  have K1 : Hid ((w.alloc (.cells #[.int .i64 0, .int .i64 0, .string ⟨#[]⟩, .string ⟨#[]⟩, .string ⟨#[]⟩, .int .i64 0] 32)).heap[w.heap.size]? = some (.cells #[.int .i64 0, .int .i64 0, .string ⟨#[]⟩, .string ⟨#[]⟩, .string ⟨#[]⟩, .int .i64 0] 32 (0, 0))) := Lib.hid (heap_alloc_new w _)
  have B1 : Hid (Bt P M.blk w (w.alloc (.cells #[.int .i64 0, .int .i64 0, .string ⟨#[]⟩, .string ⟨#[]⟩, .string ⟨#[]⟩, .int .i64 0] 32))) := Lib.hid (Bt.of_gr ((Gr.refl w).alloc _))
  clear h
  go_enter Tryd.func34, Tryd.ntmps34
  go_wp2_with fail
  clear c0 c1 c2 c3 c4 c5 c6 c7 cf
  refine (Hq.out _ B1.out S1.out).mono ?_
  rintro e2 w2 ⟨rfl, hS2, hb2⟩
  have g2 := Lib.hid ((Gr.refl w2).alloc (.cells #[.int .i64 0, .int .i64 0, .string ⟨#[]⟩, .string ⟨#[]⟩, .string ⟨#[]⟩, .int .i64 0] 32))
  have S2 := Lib.hid (hS2.gr g2.out)
  have K2 := Lib.hid ((g2.out.block _ (Nat.lt_of_lt_of_le (Array.getElem?_eq_some_iff.1 K1.out).1 hb2.size)).trans ((hb2.block _ (Array.getElem?_eq_some_iff.1 K1.out).1 (by omega) (by omega)).trans K1.out))
  have B2 := Lib.hid ((B1.out.trans hb2).trans (Bt.of_gr g2.out))
  clear hS2 hb2 g2 S1 K1 B1
  go_wp2_with fail
  refine (HR.out _ B2.out S2.out).mono ?_
  rintro e6 w6 ⟨M', b, rfl, hS6, hb6, hM6, hC⟩
  have g6 := Lib.hid ((Gr.refl w6).alloc (.cells #[.int .i64 tk.kind, .int .i64 tk.place, .string tk.text, .string tk.repl, .string tk.more, .int .i64 tk.opn] 32))
  have S6 := Lib.hid (hS6.gr g6.out)
  have K6 := Lib.hid ((g6.out.block _ (Nat.lt_of_lt_of_le (Array.getElem?_eq_some_iff.1 K2.out).1 hb6.size)).trans ((hb6.block _ (Array.getElem?_eq_some_iff.1 K2.out).1 (by omega) (by omega)).trans K2.out))
  have B6 := Lib.hid ((B2.out.trans hb6).trans (Bt.of_gr g6.out))
  have HM6 := Lib.hid hM6
  have HC := Lib.hid hC
  clear hS6 hb6 hM6 hC S2 K2 B2 HR
  go_wp2_with (refine wpList_store_tok rfl (.tmp 2) (.tmp 27) rfl (t := tk) rfl rfl K6.out rfl ?_)
  intro W9 hb9 hk9
  have B9 := Lib.hid hb9
  have K9 := Lib.hid hk9
  clear hb9 hk9
  go_wp2_with fail
  refine bodyPost_ret (results_tok rfl rfl K9.out) rfl ?_
  have hm := HM6.out
  exact ⟨M', b, rfl, S6.out.but B9.out (by omega) (by omega), B6.out.late (Nat.le_refl _) B9.out, hm, HC.out⟩
set_option maxRecDepth 100000 in
set_option maxHeartbeats 1000000 in
theorem tk_var (h : Sc w P M s at_ en true tv bv ov) (hq : FindsN w 39 P M s at_ en true tv bv ov) (hh : FindsN w 40 P M s at_ en true tv bv ov) (hr : FindsG w 41 P M s at_ en true tv bv ov tk C) :
    Calls Tryd.prog 34 #[.pointer (some ⟨P, 0, none⟩)] w fun e w' => ∃ M' b, e = .returned tk.val ∧ Sc w' P M' s b en true tv bv ov ∧ Bt P M.blk w w' ∧ M'.blk = M.blk ∧ C M' b := by
  have HR := Lib.hid hr
  unfold FindsG at HR
  clear hr
  have Hq := Lib.hid hq
  unfold FindsN at Hq
  clear hq
  have Hh := Lib.hid hh
  unfold FindsN at Hh
  clear hh
  have hP : P < w.heap.size := h.lt.1
  have hM : M.blk < w.heap.size := h.lt.2
  obtain ⟨c0, c1, c2, c3, c4, c5, c6, c7, cf⟩ := (h.gr ((Gr.refl w).alloc (.cells #[.int .i64 0, .int .i64 0, .string ⟨#[]⟩, .string ⟨#[]⟩, .string ⟨#[]⟩, .int .i64 0] 32))).cells
  have S1 := Lib.hid (h.gr ((Gr.refl w).alloc (.cells #[.int .i64 0, .int .i64 0, .string ⟨#[]⟩, .string ⟨#[]⟩, .string ⟨#[]⟩, .int .i64 0] 32)))
  have K1 : Hid ((w.alloc (.cells #[.int .i64 0, .int .i64 0, .string ⟨#[]⟩, .string ⟨#[]⟩, .string ⟨#[]⟩, .int .i64 0] 32)).heap[w.heap.size]? = some (.cells #[.int .i64 0, .int .i64 0, .string ⟨#[]⟩, .string ⟨#[]⟩, .string ⟨#[]⟩, .int .i64 0] 32 (0, 0))) := Lib.hid (heap_alloc_new w _)
  have B1 : Hid (Bt P M.blk w (w.alloc (.cells #[.int .i64 0, .int .i64 0, .string ⟨#[]⟩, .string ⟨#[]⟩, .string ⟨#[]⟩, .int .i64 0] 32))) := Lib.hid (Bt.of_gr ((Gr.refl w).alloc _))
  clear h
  go_enter Tryd.func34, Tryd.ntmps34
  go_wp2_with fail
  clear c0 c1 c2 c3 c4 c5 c6 c7 cf
  refine (Hq.out _ B1.out S1.out).mono ?_
  rintro e2 w2 ⟨rfl, hS2, hb2⟩
  have g2 := Lib.hid ((Gr.refl w2).alloc (.cells #[.int .i64 0, .int .i64 0, .string ⟨#[]⟩, .string ⟨#[]⟩, .string ⟨#[]⟩, .int .i64 0] 32))
  have S2 := Lib.hid (hS2.gr g2.out)
  have K2 := Lib.hid ((g2.out.block _ (Nat.lt_of_lt_of_le (Array.getElem?_eq_some_iff.1 K1.out).1 hb2.size)).trans ((hb2.block _ (Array.getElem?_eq_some_iff.1 K1.out).1 (by omega) (by omega)).trans K1.out))
  have B2 := Lib.hid ((B1.out.trans hb2).trans (Bt.of_gr g2.out))
  clear hS2 hb2 g2 S1 K1 B1
  go_wp2_with fail
  refine (Hh.out _ B2.out S2.out).mono ?_
  rintro e3 w3 ⟨rfl, hS3, hb3⟩
  have g3 := Lib.hid ((Gr.refl w3).alloc (.cells #[.int .i64 0, .int .i64 0, .string ⟨#[]⟩, .string ⟨#[]⟩, .string ⟨#[]⟩, .int .i64 0] 32))
  have S3 := Lib.hid (hS3.gr g3.out)
  have K3 := Lib.hid ((g3.out.block _ (Nat.lt_of_lt_of_le (Array.getElem?_eq_some_iff.1 K2.out).1 hb3.size)).trans ((hb3.block _ (Array.getElem?_eq_some_iff.1 K2.out).1 (by omega) (by omega)).trans K2.out))
  have B3 := Lib.hid ((B2.out.trans hb3).trans (Bt.of_gr g3.out))
  clear hS3 hb3 g3 S2 K2 B2
  go_wp2_with fail
  refine (HR.out _ B3.out S3.out).mono ?_
  rintro e6 w6 ⟨M', b, rfl, hS6, hb6, hM6, hC⟩
  have g6 := Lib.hid ((Gr.refl w6).alloc (.cells #[.int .i64 tk.kind, .int .i64 tk.place, .string tk.text, .string tk.repl, .string tk.more, .int .i64 tk.opn] 32))
  have S6 := Lib.hid (hS6.gr g6.out)
  have K6 := Lib.hid ((g6.out.block _ (Nat.lt_of_lt_of_le (Array.getElem?_eq_some_iff.1 K3.out).1 hb6.size)).trans ((hb6.block _ (Array.getElem?_eq_some_iff.1 K3.out).1 (by omega) (by omega)).trans K3.out))
  have B6 := Lib.hid ((B3.out.trans hb6).trans (Bt.of_gr g6.out))
  have HM6 := Lib.hid hM6
  have HC := Lib.hid hC
  clear hS6 hb6 hM6 hC S3 K3 B3 HR
  go_wp2_with (refine wpList_store_tok rfl (.tmp 2) (.tmp 34) rfl (t := tk) rfl rfl K6.out rfl ?_)
  intro W9 hb9 hk9
  have B9 := Lib.hid hb9
  have K9 := Lib.hid hk9
  clear hb9 hk9
  go_wp2_with fail
  refine bodyPost_ret (results_tok rfl rfl K9.out) rfl ?_
  have hm := HM6.out
  exact ⟨M', b, rfl, S6.out.but B9.out (by omega) (by omega), B6.out.late (Nat.le_refl _) B9.out, hm, HC.out⟩
set_option maxRecDepth 100000 in
set_option maxHeartbeats 1000000 in
theorem tk_word_t (h : Sc w P M s at_ en true tv bv ov) (hq : FindsN w 39 P M s at_ en true tv bv ov) (hh : FindsN w 40 P M s at_ en true tv bv ov) (hv : FindsN w 41 P M s at_ en true tv bv ov) (hx : s.data.toList[at_]? = some x) (ha : alphaB x.toNat = true) (hr : ReadsG w 43 P M s at_ en true tv bv ov tk C) :
    Calls Tryd.prog 34 #[.pointer (some ⟨P, 0, none⟩)] w fun e w' => ∃ M' b, e = .returned tk.val ∧ Sc w' P M' s b en true tv bv ov ∧ Bt P M.blk w w' ∧ M'.blk = M.blk ∧ C M' b := by
  have hL : at_ < s.data.toList.length := (List.getElem?_eq_some_iff.1 hx).1
  have hat : at_ < s.size := by rw [sizeL] at hL; exact hL
  have ex : s[at_] = x := by rw [byteE s at_ hat hL]; exact (List.getElem?_eq_some_iff.1 hx).2
  have hat' : (at_ : Int) < (s.size : Int) := by omega
  have HA := Lib.hid (fun w => alpha_p x.toNat w)
  rw [ha] at HA
  clear hx ha
  have HR := Lib.hid hr
  unfold ReadsG at HR
  clear hr
  have Hq := Lib.hid hq
  unfold FindsN at Hq
  clear hq
  have Hh := Lib.hid hh
  unfold FindsN at Hh
  clear hh
  have Hv := Lib.hid hv
  unfold FindsN at Hv
  clear hv
  have hP : P < w.heap.size := h.lt.1
  have hM : M.blk < w.heap.size := h.lt.2
  obtain ⟨c0, c1, c2, c3, c4, c5, c6, c7, cf⟩ := (h.gr ((Gr.refl w).alloc (.cells #[.int .i64 0, .int .i64 0, .string ⟨#[]⟩, .string ⟨#[]⟩, .string ⟨#[]⟩, .int .i64 0] 32))).cells
  have S1 := Lib.hid (h.gr ((Gr.refl w).alloc (.cells #[.int .i64 0, .int .i64 0, .string ⟨#[]⟩, .string ⟨#[]⟩, .string ⟨#[]⟩, .int .i64 0] 32)))
  have K1 : Hid ((w.alloc (.cells #[.int .i64 0, .int .i64 0, .string ⟨#[]⟩, .string ⟨#[]⟩, .string ⟨#[]⟩, .int .i64 0] 32)).heap[w.heap.size]? = some (.cells #[.int .i64 0, .int .i64 0, .string ⟨#[]⟩, .string ⟨#[]⟩, .string ⟨#[]⟩, .int .i64 0] 32 (0, 0))) := Lib.hid (heap_alloc_new w _)
  have B1 : Hid (Bt P M.blk w (w.alloc (.cells #[.int .i64 0, .int .i64 0, .string ⟨#[]⟩, .string ⟨#[]⟩, .string ⟨#[]⟩, .int .i64 0] 32))) := Lib.hid (Bt.of_gr ((Gr.refl w).alloc _))
  clear h
  go_enter Tryd.func34, Tryd.ntmps34
  go_wp2_with fail
  clear c0 c1 c2 c3 c4 c5 c6 c7 cf
  refine (Hq.out _ B1.out S1.out).mono ?_
  rintro e2 w2 ⟨rfl, hS2, hb2⟩
  have g2 := Lib.hid ((Gr.refl w2).alloc (.cells #[.int .i64 0, .int .i64 0, .string ⟨#[]⟩, .string ⟨#[]⟩, .string ⟨#[]⟩, .int .i64 0] 32))
  have S2 := Lib.hid (hS2.gr g2.out)
  have K2 := Lib.hid ((g2.out.block _ (Nat.lt_of_lt_of_le (Array.getElem?_eq_some_iff.1 K1.out).1 hb2.size)).trans ((hb2.block _ (Array.getElem?_eq_some_iff.1 K1.out).1 (by omega) (by omega)).trans K1.out))
  have B2 := Lib.hid ((B1.out.trans hb2).trans (Bt.of_gr g2.out))
  clear hS2 hb2 g2 S1 K1 B1
  go_wp2_with fail
  refine (Hh.out _ B2.out S2.out).mono ?_
  rintro e3 w3 ⟨rfl, hS3, hb3⟩
  have g3 := Lib.hid ((Gr.refl w3).alloc (.cells #[.int .i64 0, .int .i64 0, .string ⟨#[]⟩, .string ⟨#[]⟩, .string ⟨#[]⟩, .int .i64 0] 32))
  have S3 := Lib.hid (hS3.gr g3.out)
  have K3 := Lib.hid ((g3.out.block _ (Nat.lt_of_lt_of_le (Array.getElem?_eq_some_iff.1 K2.out).1 hb3.size)).trans ((hb3.block _ (Array.getElem?_eq_some_iff.1 K2.out).1 (by omega) (by omega)).trans K2.out))
  have B3 := Lib.hid ((B2.out.trans hb3).trans (Bt.of_gr g3.out))
  clear hS3 hb3 g3 S2 K2 B2
  go_wp2_with fail
  refine (Hv.out _ B3.out S3.out).mono ?_
  rintro e4 w4 ⟨rfl, hS4, hb4⟩
  have g4 := Lib.hid ((Gr.refl w4).alloc (.cells #[.int .i64 0, .int .i64 0, .string ⟨#[]⟩, .string ⟨#[]⟩, .string ⟨#[]⟩, .int .i64 0] 32))
  have S4 := Lib.hid (hS4.gr g4.out)
  have K4 := Lib.hid ((g4.out.block _ (Nat.lt_of_lt_of_le (Array.getElem?_eq_some_iff.1 K3.out).1 hb4.size)).trans ((hb4.block _ (Array.getElem?_eq_some_iff.1 K3.out).1 (by omega) (by omega)).trans K3.out))
  have B4 := Lib.hid ((B3.out.trans hb4).trans (Bt.of_gr g4.out))
  clear hS4 hb4 g4 S3 K3 B3
  obtain ⟨c0, c1, c2, c3, c4, c5, c6, c7, cf⟩ := S4.out.cells
  go_wp2_with fail
  go_quiet (fail)
  clear c0 c1 c2 c3 c4 c5 c6 c7 cf
  go_wp2_with fail
  refine (HA.out _).mono ?_
  rintro e wa ⟨rfl, rfl⟩
  go_wp2_with fail
  refine (HR.out _ (B4.out.trans (Bt.of_gr ((Gr.refl _).drewN _))) (S4.out.gr ((Gr.refl _).drewN _))).mono ?_
  rintro e6 w6 ⟨M', b, rfl, hS6, hb6, hM6, hC⟩
  have S6 := Lib.hid hS6
  have K6 := Lib.hid ((hb6.block _ (Array.getElem?_eq_some_iff.1 K4.out).1 (by omega) (by omega)).trans K4.out)
  have B6 := Lib.hid ((B4.out.trans (Bt.of_gr ((Gr.refl _).drewN _))).trans hb6)
  have HM6 := Lib.hid hM6
  have HC := Lib.hid hC
  clear hS6 hb6 hM6 hC S4 K4 B4 HR
  go_wp2_with (refine wpList_store_tok rfl (.tmp 2) (.tmp 48) rfl (t := tk) rfl rfl K6.out rfl ?_)
  intro W9 hb9 hk9
  have B9 := Lib.hid hb9
  have K9 := Lib.hid hk9
  clear hb9 hk9
  go_wp2_with fail
  refine bodyPost_ret (results_tok rfl rfl K9.out) rfl ?_
  have hm := HM6.out
  exact ⟨M', b, rfl, S6.out.but B9.out (by omega) (by omega), B6.out.late (Nat.le_refl _) B9.out, hm, HC.out⟩
set_option maxRecDepth 100000 in
set_option maxHeartbeats 1000000 in
theorem tk_word_f (h : Sc w P M s at_ en false tv bv ov) (hx : s.data.toList[at_]? = some x) (ha : alphaB x.toNat = true) (hr : ReadsG w 43 P M s at_ en false tv bv ov tk C) :
    Calls Tryd.prog 34 #[.pointer (some ⟨P, 0, none⟩)] w fun e w' => ∃ M' b, e = .returned tk.val ∧ Sc w' P M' s b en false tv bv ov ∧ Bt P M.blk w w' ∧ M'.blk = M.blk ∧ C M' b := by
  have hL : at_ < s.data.toList.length := (List.getElem?_eq_some_iff.1 hx).1
  have hat : at_ < s.size := by rw [sizeL] at hL; exact hL
  have ex : s[at_] = x := by rw [byteE s at_ hat hL]; exact (List.getElem?_eq_some_iff.1 hx).2
  have hat' : (at_ : Int) < (s.size : Int) := by omega
  have HA := Lib.hid (fun w => alpha_p x.toNat w)
  rw [ha] at HA
  clear hx ha
  have HR := Lib.hid hr
  unfold ReadsG at HR
  clear hr
  have hP : P < w.heap.size := h.lt.1
  have hM : M.blk < w.heap.size := h.lt.2
  obtain ⟨c0, c1, c2, c3, c4, c5, c6, c7, cf⟩ := (h.gr ((Gr.refl w).alloc (.cells #[.int .i64 0, .int .i64 0, .string ⟨#[]⟩, .string ⟨#[]⟩, .string ⟨#[]⟩, .int .i64 0] 32))).cells
  have S1 := Lib.hid (h.gr ((Gr.refl w).alloc (.cells #[.int .i64 0, .int .i64 0, .string ⟨#[]⟩, .string ⟨#[]⟩, .string ⟨#[]⟩, .int .i64 0] 32)))
  have K1 : Hid ((w.alloc (.cells #[.int .i64 0, .int .i64 0, .string ⟨#[]⟩, .string ⟨#[]⟩, .string ⟨#[]⟩, .int .i64 0] 32)).heap[w.heap.size]? = some (.cells #[.int .i64 0, .int .i64 0, .string ⟨#[]⟩, .string ⟨#[]⟩, .string ⟨#[]⟩, .int .i64 0] 32 (0, 0))) := Lib.hid (heap_alloc_new w _)
  have B1 : Hid (Bt P M.blk w (w.alloc (.cells #[.int .i64 0, .int .i64 0, .string ⟨#[]⟩, .string ⟨#[]⟩, .string ⟨#[]⟩, .int .i64 0] 32))) := Lib.hid (Bt.of_gr ((Gr.refl w).alloc _))
  clear h
  go_enter Tryd.func34, Tryd.ntmps34
  go_wp2_with fail
  go_quiet (fail)
  clear c0 c1 c2 c3 c4 c5 c6 c7 cf
  go_wp2_with fail
  refine (HA.out _).mono ?_
  rintro e wa ⟨rfl, rfl⟩
  go_wp2_with fail
  refine (HR.out _ (B1.out.trans (Bt.of_gr ((Gr.refl _).drewN _))) (S1.out.gr ((Gr.refl _).drewN _))).mono ?_
  rintro e6 w6 ⟨M', b, rfl, hS6, hb6, hM6, hC⟩
  have S6 := Lib.hid hS6
  have K6 := Lib.hid ((hb6.block _ (Array.getElem?_eq_some_iff.1 K1.out).1 (by omega) (by omega)).trans K1.out)
  have B6 := Lib.hid ((B1.out.trans (Bt.of_gr ((Gr.refl _).drewN _))).trans hb6)
  have HM6 := Lib.hid hM6
  have HC := Lib.hid hC
  clear hS6 hb6 hM6 hC S1 K1 B1 HR
  go_wp2_with (refine wpList_store_tok rfl (.tmp 2) (.tmp 48) rfl (t := tk) rfl rfl K6.out rfl ?_)
  intro W9 hb9 hk9
  have B9 := Lib.hid hb9
  have K9 := Lib.hid hk9
  clear hb9 hk9
  go_wp2_with fail
  refine bodyPost_ret (results_tok rfl rfl K9.out) rfl ?_
  have hm := HM6.out
  exact ⟨M', b, rfl, S6.out.but B9.out (by omega) (by omega), B6.out.late (Nat.le_refl _) B9.out, hm, HC.out⟩
set_option maxRecDepth 100000 in
set_option maxHeartbeats 1000000 in
theorem tk_number_t (h : Sc w P M s at_ en true tv bv ov) (hq : FindsN w 39 P M s at_ en true tv bv ov) (hh : FindsN w 40 P M s at_ en true tv bv ov) (hv : FindsN w 41 P M s at_ en true tv bv ov) (hx : s.data.toList[at_]? = some x) (ha : alphaB x.toNat = false) (hd : digB x.toNat = true) (hr : ReadsG w 45 P M s at_ en true tv bv ov tk C) :
    Calls Tryd.prog 34 #[.pointer (some ⟨P, 0, none⟩)] w fun e w' => ∃ M' b, e = .returned tk.val ∧ Sc w' P M' s b en true tv bv ov ∧ Bt P M.blk w w' ∧ M'.blk = M.blk ∧ C M' b := by
  have hL : at_ < s.data.toList.length := (List.getElem?_eq_some_iff.1 hx).1
  have hat : at_ < s.size := by rw [sizeL] at hL; exact hL
  have ex : s[at_] = x := by rw [byteE s at_ hat hL]; exact (List.getElem?_eq_some_iff.1 hx).2
  have hat' : (at_ : Int) < (s.size : Int) := by omega
  have HA := Lib.hid (fun w => alpha_p x.toNat w)
  rw [ha] at HA
  have HD := Lib.hid (fun w => dig_p x.toNat w)
  rw [hd] at HD
  clear hx ha hd
  have HR := Lib.hid hr
  unfold ReadsG at HR
  clear hr
  have Hq := Lib.hid hq
  unfold FindsN at Hq
  clear hq
  have Hh := Lib.hid hh
  unfold FindsN at Hh
  clear hh
  have Hv := Lib.hid hv
  unfold FindsN at Hv
  clear hv
  have hP : P < w.heap.size := h.lt.1
  have hM : M.blk < w.heap.size := h.lt.2
  obtain ⟨c0, c1, c2, c3, c4, c5, c6, c7, cf⟩ := (h.gr ((Gr.refl w).alloc (.cells #[.int .i64 0, .int .i64 0, .string ⟨#[]⟩, .string ⟨#[]⟩, .string ⟨#[]⟩, .int .i64 0] 32))).cells
  have S1 := Lib.hid (h.gr ((Gr.refl w).alloc (.cells #[.int .i64 0, .int .i64 0, .string ⟨#[]⟩, .string ⟨#[]⟩, .string ⟨#[]⟩, .int .i64 0] 32)))
  have K1 : Hid ((w.alloc (.cells #[.int .i64 0, .int .i64 0, .string ⟨#[]⟩, .string ⟨#[]⟩, .string ⟨#[]⟩, .int .i64 0] 32)).heap[w.heap.size]? = some (.cells #[.int .i64 0, .int .i64 0, .string ⟨#[]⟩, .string ⟨#[]⟩, .string ⟨#[]⟩, .int .i64 0] 32 (0, 0))) := Lib.hid (heap_alloc_new w _)
  have B1 : Hid (Bt P M.blk w (w.alloc (.cells #[.int .i64 0, .int .i64 0, .string ⟨#[]⟩, .string ⟨#[]⟩, .string ⟨#[]⟩, .int .i64 0] 32))) := Lib.hid (Bt.of_gr ((Gr.refl w).alloc _))
  clear h
  go_enter Tryd.func34, Tryd.ntmps34
  go_wp2_with fail
  clear c0 c1 c2 c3 c4 c5 c6 c7 cf
  refine (Hq.out _ B1.out S1.out).mono ?_
  rintro e2 w2 ⟨rfl, hS2, hb2⟩
  have g2 := Lib.hid ((Gr.refl w2).alloc (.cells #[.int .i64 0, .int .i64 0, .string ⟨#[]⟩, .string ⟨#[]⟩, .string ⟨#[]⟩, .int .i64 0] 32))
  have S2 := Lib.hid (hS2.gr g2.out)
  have K2 := Lib.hid ((g2.out.block _ (Nat.lt_of_lt_of_le (Array.getElem?_eq_some_iff.1 K1.out).1 hb2.size)).trans ((hb2.block _ (Array.getElem?_eq_some_iff.1 K1.out).1 (by omega) (by omega)).trans K1.out))
  have B2 := Lib.hid ((B1.out.trans hb2).trans (Bt.of_gr g2.out))
  clear hS2 hb2 g2 S1 K1 B1
  go_wp2_with fail
  refine (Hh.out _ B2.out S2.out).mono ?_
  rintro e3 w3 ⟨rfl, hS3, hb3⟩
  have g3 := Lib.hid ((Gr.refl w3).alloc (.cells #[.int .i64 0, .int .i64 0, .string ⟨#[]⟩, .string ⟨#[]⟩, .string ⟨#[]⟩, .int .i64 0] 32))
  have S3 := Lib.hid (hS3.gr g3.out)
  have K3 := Lib.hid ((g3.out.block _ (Nat.lt_of_lt_of_le (Array.getElem?_eq_some_iff.1 K2.out).1 hb3.size)).trans ((hb3.block _ (Array.getElem?_eq_some_iff.1 K2.out).1 (by omega) (by omega)).trans K2.out))
  have B3 := Lib.hid ((B2.out.trans hb3).trans (Bt.of_gr g3.out))
  clear hS3 hb3 g3 S2 K2 B2
  go_wp2_with fail
  refine (Hv.out _ B3.out S3.out).mono ?_
  rintro e4 w4 ⟨rfl, hS4, hb4⟩
  have g4 := Lib.hid ((Gr.refl w4).alloc (.cells #[.int .i64 0, .int .i64 0, .string ⟨#[]⟩, .string ⟨#[]⟩, .string ⟨#[]⟩, .int .i64 0] 32))
  have S4 := Lib.hid (hS4.gr g4.out)
  have K4 := Lib.hid ((g4.out.block _ (Nat.lt_of_lt_of_le (Array.getElem?_eq_some_iff.1 K3.out).1 hb4.size)).trans ((hb4.block _ (Array.getElem?_eq_some_iff.1 K3.out).1 (by omega) (by omega)).trans K3.out))
  have B4 := Lib.hid ((B3.out.trans hb4).trans (Bt.of_gr g4.out))
  clear hS4 hb4 g4 S3 K3 B3
  obtain ⟨c0, c1, c2, c3, c4, c5, c6, c7, cf⟩ := S4.out.cells
  go_wp2_with fail
  go_quiet (fail)
  clear c0 c1 c2 c3 c4 c5 c6 c7 cf
  go_wp2_with fail
  refine (HA.out _).mono ?_
  rintro e wa ⟨rfl, rfl⟩
  go_wp2_with fail
  refine (HD.out _).mono ?_
  rintro e wa ⟨rfl, rfl⟩
  go_wp2_with fail
  refine (HR.out _ (B4.out.trans (Bt.of_gr ((Gr.refl _).drewN _))) (S4.out.gr ((Gr.refl _).drewN _))).mono ?_
  rintro e6 w6 ⟨M', b, rfl, hS6, hb6, hM6, hC⟩
  have S6 := Lib.hid hS6
  have K6 := Lib.hid ((hb6.block _ (Array.getElem?_eq_some_iff.1 K4.out).1 (by omega) (by omega)).trans K4.out)
  have B6 := Lib.hid ((B4.out.trans (Bt.of_gr ((Gr.refl _).drewN _))).trans hb6)
  have HM6 := Lib.hid hM6
  have HC := Lib.hid hC
  clear hS6 hb6 hM6 hC S4 K4 B4 HR
  go_wp2_with (refine wpList_store_tok rfl (.tmp 2) (.tmp 53) rfl (t := tk) rfl rfl K6.out rfl ?_)
  intro W9 hb9 hk9
  have B9 := Lib.hid hb9
  have K9 := Lib.hid hk9
  clear hb9 hk9
  go_wp2_with fail
  refine bodyPost_ret (results_tok rfl rfl K9.out) rfl ?_
  have hm := HM6.out
  exact ⟨M', b, rfl, S6.out.but B9.out (by omega) (by omega), B6.out.late (Nat.le_refl _) B9.out, hm, HC.out⟩
set_option maxRecDepth 100000 in
set_option maxHeartbeats 1000000 in
theorem tk_number_f (h : Sc w P M s at_ en false tv bv ov) (hx : s.data.toList[at_]? = some x) (ha : alphaB x.toNat = false) (hd : digB x.toNat = true) (hr : ReadsG w 45 P M s at_ en false tv bv ov tk C) :
    Calls Tryd.prog 34 #[.pointer (some ⟨P, 0, none⟩)] w fun e w' => ∃ M' b, e = .returned tk.val ∧ Sc w' P M' s b en false tv bv ov ∧ Bt P M.blk w w' ∧ M'.blk = M.blk ∧ C M' b := by
  have hL : at_ < s.data.toList.length := (List.getElem?_eq_some_iff.1 hx).1
  have hat : at_ < s.size := by rw [sizeL] at hL; exact hL
  have ex : s[at_] = x := by rw [byteE s at_ hat hL]; exact (List.getElem?_eq_some_iff.1 hx).2
  have hat' : (at_ : Int) < (s.size : Int) := by omega
  have HA := Lib.hid (fun w => alpha_p x.toNat w)
  rw [ha] at HA
  have HD := Lib.hid (fun w => dig_p x.toNat w)
  rw [hd] at HD
  clear hx ha hd
  have HR := Lib.hid hr
  unfold ReadsG at HR
  clear hr
  have hP : P < w.heap.size := h.lt.1
  have hM : M.blk < w.heap.size := h.lt.2
  obtain ⟨c0, c1, c2, c3, c4, c5, c6, c7, cf⟩ := (h.gr ((Gr.refl w).alloc (.cells #[.int .i64 0, .int .i64 0, .string ⟨#[]⟩, .string ⟨#[]⟩, .string ⟨#[]⟩, .int .i64 0] 32))).cells
  have S1 := Lib.hid (h.gr ((Gr.refl w).alloc (.cells #[.int .i64 0, .int .i64 0, .string ⟨#[]⟩, .string ⟨#[]⟩, .string ⟨#[]⟩, .int .i64 0] 32)))
  have K1 : Hid ((w.alloc (.cells #[.int .i64 0, .int .i64 0, .string ⟨#[]⟩, .string ⟨#[]⟩, .string ⟨#[]⟩, .int .i64 0] 32)).heap[w.heap.size]? = some (.cells #[.int .i64 0, .int .i64 0, .string ⟨#[]⟩, .string ⟨#[]⟩, .string ⟨#[]⟩, .int .i64 0] 32 (0, 0))) := Lib.hid (heap_alloc_new w _)
  have B1 : Hid (Bt P M.blk w (w.alloc (.cells #[.int .i64 0, .int .i64 0, .string ⟨#[]⟩, .string ⟨#[]⟩, .string ⟨#[]⟩, .int .i64 0] 32))) := Lib.hid (Bt.of_gr ((Gr.refl w).alloc _))
  clear h
  go_enter Tryd.func34, Tryd.ntmps34
  go_wp2_with fail
  go_quiet (fail)
  clear c0 c1 c2 c3 c4 c5 c6 c7 cf
  go_wp2_with fail
  refine (HA.out _).mono ?_
  rintro e wa ⟨rfl, rfl⟩
  go_wp2_with fail
  refine (HD.out _).mono ?_
  rintro e wa ⟨rfl, rfl⟩
  go_wp2_with fail
  refine (HR.out _ (B1.out.trans (Bt.of_gr ((Gr.refl _).drewN _))) (S1.out.gr ((Gr.refl _).drewN _))).mono ?_
  rintro e6 w6 ⟨M', b, rfl, hS6, hb6, hM6, hC⟩
  have S6 := Lib.hid hS6
  have K6 := Lib.hid ((hb6.block _ (Array.getElem?_eq_some_iff.1 K1.out).1 (by omega) (by omega)).trans K1.out)
  have B6 := Lib.hid ((B1.out.trans (Bt.of_gr ((Gr.refl _).drewN _))).trans hb6)
  have HM6 := Lib.hid hM6
  have HC := Lib.hid hC
  clear hS6 hb6 hM6 hC S1 K1 B1 HR
  go_wp2_with (refine wpList_store_tok rfl (.tmp 2) (.tmp 53) rfl (t := tk) rfl rfl K6.out rfl ?_)
  intro W9 hb9 hk9
  have B9 := Lib.hid hb9
  have K9 := Lib.hid hk9
  clear hb9 hk9
  go_wp2_with fail
  refine bodyPost_ret (results_tok rfl rfl K9.out) rfl ?_
  have hm := HM6.out
  exact ⟨M', b, rfl, S6.out.but B9.out (by omega) (by omega), B6.out.late (Nat.le_refl _) B9.out, hm, HC.out⟩
set_option maxRecDepth 100000 in
set_option maxHeartbeats 1000000 in
theorem tk_sign_t (h : Sc w P M s at_ en true tv bv ov) (hq : FindsN w 39 P M s at_ en true tv bv ov) (hh : FindsN w 40 P M s at_ en true tv bv ov) (hv : FindsN w 41 P M s at_ en true tv bv ov) (hx : s.data.toList[at_]? = some x) (ha : alphaB x.toNat = false) (hd : digB x.toNat = false) (hr : ReadsG w 46 P M s at_ en true tv bv ov tk C) :
    Calls Tryd.prog 34 #[.pointer (some ⟨P, 0, none⟩)] w fun e w' => ∃ M' b, e = .returned tk.val ∧ Sc w' P M' s b en true tv bv ov ∧ Bt P M.blk w w' ∧ M'.blk = M.blk ∧ C M' b := by
  have hL : at_ < s.data.toList.length := (List.getElem?_eq_some_iff.1 hx).1
  have hat : at_ < s.size := by rw [sizeL] at hL; exact hL
  have ex : s[at_] = x := by rw [byteE s at_ hat hL]; exact (List.getElem?_eq_some_iff.1 hx).2
  have hat' : (at_ : Int) < (s.size : Int) := by omega
  have HA := Lib.hid (fun w => alpha_p x.toNat w)
  rw [ha] at HA
  have HD := Lib.hid (fun w => dig_p x.toNat w)
  rw [hd] at HD
  clear hx ha hd
  have HR := Lib.hid hr
  unfold ReadsG at HR
  clear hr
  have Hq := Lib.hid hq
  unfold FindsN at Hq
  clear hq
  have Hh := Lib.hid hh
  unfold FindsN at Hh
  clear hh
  have Hv := Lib.hid hv
  unfold FindsN at Hv
  clear hv
  have hP : P < w.heap.size := h.lt.1
  have hM : M.blk < w.heap.size := h.lt.2
  obtain ⟨c0, c1, c2, c3, c4, c5, c6, c7, cf⟩ := (h.gr ((Gr.refl w).alloc (.cells #[.int .i64 0, .int .i64 0, .string ⟨#[]⟩, .string ⟨#[]⟩, .string ⟨#[]⟩, .int .i64 0] 32))).cells
  have S1 := Lib.hid (h.gr ((Gr.refl w).alloc (.cells #[.int .i64 0, .int .i64 0, .string ⟨#[]⟩, .string ⟨#[]⟩, .string ⟨#[]⟩, .int .i64 0] 32)))
  have K1 : Hid ((w.alloc (.cells #[.int .i64 0, .int .i64 0, .string ⟨#[]⟩, .string ⟨#[]⟩, .string ⟨#[]⟩, .int .i64 0] 32)).heap[w.heap.size]? = some (.cells #[.int .i64 0, .int .i64 0, .string ⟨#[]⟩, .string ⟨#[]⟩, .string ⟨#[]⟩, .int .i64 0] 32 (0, 0))) := Lib.hid (heap_alloc_new w _)
  have B1 : Hid (Bt P M.blk w (w.alloc (.cells #[.int .i64 0, .int .i64 0, .string ⟨#[]⟩, .string ⟨#[]⟩, .string ⟨#[]⟩, .int .i64 0] 32))) := Lib.hid (Bt.of_gr ((Gr.refl w).alloc _))
  clear h
  go_enter Tryd.func34, Tryd.ntmps34
  go_wp2_with fail
  clear c0 c1 c2 c3 c4 c5 c6 c7 cf
  refine (Hq.out _ B1.out S1.out).mono ?_
  rintro e2 w2 ⟨rfl, hS2, hb2⟩
  have g2 := Lib.hid ((Gr.refl w2).alloc (.cells #[.int .i64 0, .int .i64 0, .string ⟨#[]⟩, .string ⟨#[]⟩, .string ⟨#[]⟩, .int .i64 0] 32))
  have S2 := Lib.hid (hS2.gr g2.out)
  have K2 := Lib.hid ((g2.out.block _ (Nat.lt_of_lt_of_le (Array.getElem?_eq_some_iff.1 K1.out).1 hb2.size)).trans ((hb2.block _ (Array.getElem?_eq_some_iff.1 K1.out).1 (by omega) (by omega)).trans K1.out))
  have B2 := Lib.hid ((B1.out.trans hb2).trans (Bt.of_gr g2.out))
  clear hS2 hb2 g2 S1 K1 B1
  go_wp2_with fail
  refine (Hh.out _ B2.out S2.out).mono ?_
  rintro e3 w3 ⟨rfl, hS3, hb3⟩
  have g3 := Lib.hid ((Gr.refl w3).alloc (.cells #[.int .i64 0, .int .i64 0, .string ⟨#[]⟩, .string ⟨#[]⟩, .string ⟨#[]⟩, .int .i64 0] 32))
  have S3 := Lib.hid (hS3.gr g3.out)
  have K3 := Lib.hid ((g3.out.block _ (Nat.lt_of_lt_of_le (Array.getElem?_eq_some_iff.1 K2.out).1 hb3.size)).trans ((hb3.block _ (Array.getElem?_eq_some_iff.1 K2.out).1 (by omega) (by omega)).trans K2.out))
  have B3 := Lib.hid ((B2.out.trans hb3).trans (Bt.of_gr g3.out))
  clear hS3 hb3 g3 S2 K2 B2
  go_wp2_with fail
  refine (Hv.out _ B3.out S3.out).mono ?_
  rintro e4 w4 ⟨rfl, hS4, hb4⟩
  have g4 := Lib.hid ((Gr.refl w4).alloc (.cells #[.int .i64 0, .int .i64 0, .string ⟨#[]⟩, .string ⟨#[]⟩, .string ⟨#[]⟩, .int .i64 0] 32))
  have S4 := Lib.hid (hS4.gr g4.out)
  have K4 := Lib.hid ((g4.out.block _ (Nat.lt_of_lt_of_le (Array.getElem?_eq_some_iff.1 K3.out).1 hb4.size)).trans ((hb4.block _ (Array.getElem?_eq_some_iff.1 K3.out).1 (by omega) (by omega)).trans K3.out))
  have B4 := Lib.hid ((B3.out.trans hb4).trans (Bt.of_gr g4.out))
  clear hS4 hb4 g4 S3 K3 B3
  obtain ⟨c0, c1, c2, c3, c4, c5, c6, c7, cf⟩ := S4.out.cells
  go_wp2_with fail
  go_quiet (fail)
  clear c0 c1 c2 c3 c4 c5 c6 c7 cf
  go_wp2_with fail
  refine (HA.out _).mono ?_
  rintro e wa ⟨rfl, rfl⟩
  go_wp2_with fail
  refine (HD.out _).mono ?_
  rintro e wa ⟨rfl, rfl⟩
  go_wp2_with fail
  refine (HR.out _ (B4.out.trans (Bt.of_gr ((Gr.refl _).drewN _))) (S4.out.gr ((Gr.refl _).drewN _))).mono ?_
  rintro e6 w6 ⟨M', b, rfl, hS6, hb6, hM6, hC⟩
  have S6 := Lib.hid hS6
  have K6 := Lib.hid ((hb6.block _ (Array.getElem?_eq_some_iff.1 K4.out).1 (by omega) (by omega)).trans K4.out)
  have B6 := Lib.hid ((B4.out.trans (Bt.of_gr ((Gr.refl _).drewN _))).trans hb6)
  have HM6 := Lib.hid hM6
  have HC := Lib.hid hC
  clear hS6 hb6 hM6 hC S4 K4 B4 HR
  go_wp2_with (refine wpList_store_tok rfl (.tmp 2) (.tmp 55) rfl (t := tk) rfl rfl K6.out rfl ?_)
  intro W9 hb9 hk9
  have B9 := Lib.hid hb9
  have K9 := Lib.hid hk9
  clear hb9 hk9
  go_wp2_with fail
  refine bodyPost_ret (results_tok rfl rfl K9.out) rfl ?_
  have hm := HM6.out
  exact ⟨M', b, rfl, S6.out.but B9.out (by omega) (by omega), B6.out.late (Nat.le_refl _) B9.out, hm, HC.out⟩
set_option maxRecDepth 100000 in
set_option maxHeartbeats 1000000 in
theorem tk_sign_f (h : Sc w P M s at_ en false tv bv ov) (hx : s.data.toList[at_]? = some x) (ha : alphaB x.toNat = false) (hd : digB x.toNat = false) (hr : ReadsG w 46 P M s at_ en false tv bv ov tk C) :
    Calls Tryd.prog 34 #[.pointer (some ⟨P, 0, none⟩)] w fun e w' => ∃ M' b, e = .returned tk.val ∧ Sc w' P M' s b en false tv bv ov ∧ Bt P M.blk w w' ∧ M'.blk = M.blk ∧ C M' b := by
  have hL : at_ < s.data.toList.length := (List.getElem?_eq_some_iff.1 hx).1
  have hat : at_ < s.size := by rw [sizeL] at hL; exact hL
  have ex : s[at_] = x := by rw [byteE s at_ hat hL]; exact (List.getElem?_eq_some_iff.1 hx).2
  have hat' : (at_ : Int) < (s.size : Int) := by omega
  have HA := Lib.hid (fun w => alpha_p x.toNat w)
  rw [ha] at HA
  have HD := Lib.hid (fun w => dig_p x.toNat w)
  rw [hd] at HD
  clear hx ha hd
  have HR := Lib.hid hr
  unfold ReadsG at HR
  clear hr
  have hP : P < w.heap.size := h.lt.1
  have hM : M.blk < w.heap.size := h.lt.2
  obtain ⟨c0, c1, c2, c3, c4, c5, c6, c7, cf⟩ := (h.gr ((Gr.refl w).alloc (.cells #[.int .i64 0, .int .i64 0, .string ⟨#[]⟩, .string ⟨#[]⟩, .string ⟨#[]⟩, .int .i64 0] 32))).cells
  have S1 := Lib.hid (h.gr ((Gr.refl w).alloc (.cells #[.int .i64 0, .int .i64 0, .string ⟨#[]⟩, .string ⟨#[]⟩, .string ⟨#[]⟩, .int .i64 0] 32)))
  have K1 : Hid ((w.alloc (.cells #[.int .i64 0, .int .i64 0, .string ⟨#[]⟩, .string ⟨#[]⟩, .string ⟨#[]⟩, .int .i64 0] 32)).heap[w.heap.size]? = some (.cells #[.int .i64 0, .int .i64 0, .string ⟨#[]⟩, .string ⟨#[]⟩, .string ⟨#[]⟩, .int .i64 0] 32 (0, 0))) := Lib.hid (heap_alloc_new w _)
  have B1 : Hid (Bt P M.blk w (w.alloc (.cells #[.int .i64 0, .int .i64 0, .string ⟨#[]⟩, .string ⟨#[]⟩, .string ⟨#[]⟩, .int .i64 0] 32))) := Lib.hid (Bt.of_gr ((Gr.refl w).alloc _))
  clear h
  go_enter Tryd.func34, Tryd.ntmps34
  go_wp2_with fail
  go_quiet (fail)
  clear c0 c1 c2 c3 c4 c5 c6 c7 cf
  go_wp2_with fail
  refine (HA.out _).mono ?_
  rintro e wa ⟨rfl, rfl⟩
  go_wp2_with fail
  refine (HD.out _).mono ?_
  rintro e wa ⟨rfl, rfl⟩
  go_wp2_with fail
  refine (HR.out _ (B1.out.trans (Bt.of_gr ((Gr.refl _).drewN _))) (S1.out.gr ((Gr.refl _).drewN _))).mono ?_
  rintro e6 w6 ⟨M', b, rfl, hS6, hb6, hM6, hC⟩
  have S6 := Lib.hid hS6
  have K6 := Lib.hid ((hb6.block _ (Array.getElem?_eq_some_iff.1 K1.out).1 (by omega) (by omega)).trans K1.out)
  have B6 := Lib.hid ((B1.out.trans (Bt.of_gr ((Gr.refl _).drewN _))).trans hb6)
  have HM6 := Lib.hid hM6
  have HC := Lib.hid hC
  clear hS6 hb6 hM6 hC S1 K1 B1 HR
  go_wp2_with (refine wpList_store_tok rfl (.tmp 2) (.tmp 55) rfl (t := tk) rfl rfl K6.out rfl ?_)
  intro W9 hb9 hk9
  have B9 := Lib.hid hb9
  have K9 := Lib.hid hk9
  clear hb9 hk9
  go_wp2_with fail
  refine bodyPost_ret (results_tok rfl rfl K9.out) rfl ?_
  have hm := HM6.out
  exact ⟨M', b, rfl, S6.out.but B9.out (by omega) (by omega), B6.out.late (Nat.le_refl _) B9.out, hm, HC.out⟩
set_option maxRecDepth 100000 in
set_option maxHeartbeats 1000000 in
theorem tk_quote_bad (h : Sc w P M s at_ en true tv bv ov) (hr : FailsG w 39 P M s at_ en true tv bv ov) :
    Calls Tryd.prog 34 #[.pointer (some ⟨P, 0, none⟩)] w fun e w' => Bad s e ∧ Bt P M.blk w w' := by
  have HR := Lib.hid hr
  unfold FailsG at HR
  clear hr
  have hP : P < w.heap.size := h.lt.1
  have hM : M.blk < w.heap.size := h.lt.2
  obtain ⟨c0, c1, c2, c3, c4, c5, c6, c7, cf⟩ := (h.gr ((Gr.refl w).alloc (.cells #[.int .i64 0, .int .i64 0, .string ⟨#[]⟩, .string ⟨#[]⟩, .string ⟨#[]⟩, .int .i64 0] 32))).cells
  have S1 := Lib.hid (h.gr ((Gr.refl w).alloc (.cells #[.int .i64 0, .int .i64 0, .string ⟨#[]⟩, .string ⟨#[]⟩, .string ⟨#[]⟩, .int .i64 0] 32)))
  have K1 : Hid ((w.alloc (.cells #[.int .i64 0, .int .i64 0, .string ⟨#[]⟩, .string ⟨#[]⟩, .string ⟨#[]⟩, .int .i64 0] 32)).heap[w.heap.size]? = some (.cells #[.int .i64 0, .int .i64 0, .string ⟨#[]⟩, .string ⟨#[]⟩, .string ⟨#[]⟩, .int .i64 0] 32 (0, 0))) := Lib.hid (heap_alloc_new w _)
  have B1 : Hid (Bt P M.blk w (w.alloc (.cells #[.int .i64 0, .int .i64 0, .string ⟨#[]⟩, .string ⟨#[]⟩, .string ⟨#[]⟩, .int .i64 0] 32))) := Lib.hid (Bt.of_gr ((Gr.refl w).alloc _))
  clear h
  go_enter Tryd.func34, Tryd.ntmps34
  go_wp2_with fail
  clear c0 c1 c2 c3 c4 c5 c6 c7 cf
  refine (HR.out _ B1.out S1.out).mono ?_
  rintro e6 w6 ⟨⟨q, hq, rfl⟩, hb6⟩
  go_wp2_with fail
  exact ⟨rfl, ⟨q, hq, rfl⟩, B1.out.trans hb6⟩
set_option maxRecDepth 100000 in
set_option maxHeartbeats 1000000 in
theorem tk_here_bad (h : Sc w P M s at_ en true tv bv ov) (hq : FindsN w 39 P M s at_ en true tv bv ov) (hr : FailsG w 40 P M s at_ en true tv bv ov) :
    Calls Tryd.prog 34 #[.pointer (some ⟨P, 0, none⟩)] w fun e w' => Bad s e ∧ Bt P M.blk w w' := by
  have HR := Lib.hid hr
  unfold FailsG at HR
  clear hr
  have Hq := Lib.hid hq
  unfold FindsN at Hq
  clear hq
  have hP : P < w.heap.size := h.lt.1
  have hM : M.blk < w.heap.size := h.lt.2
  obtain ⟨c0, c1, c2, c3, c4, c5, c6, c7, cf⟩ := (h.gr ((Gr.refl w).alloc (.cells #[.int .i64 0, .int .i64 0, .string ⟨#[]⟩, .string ⟨#[]⟩, .string ⟨#[]⟩, .int .i64 0] 32))).cells
  have S1 := Lib.hid (h.gr ((Gr.refl w).alloc (.cells #[.int .i64 0, .int .i64 0, .string ⟨#[]⟩, .string ⟨#[]⟩, .string ⟨#[]⟩, .int .i64 0] 32)))
  have K1 : Hid ((w.alloc (.cells #[.int .i64 0, .int .i64 0, .string ⟨#[]⟩, .string ⟨#[]⟩, .string ⟨#[]⟩, .int .i64 0] 32)).heap[w.heap.size]? = some (.cells #[.int .i64 0, .int .i64 0, .string ⟨#[]⟩, .string ⟨#[]⟩, .string ⟨#[]⟩, .int .i64 0] 32 (0, 0))) := Lib.hid (heap_alloc_new w _)
  have B1 : Hid (Bt P M.blk w (w.alloc (.cells #[.int .i64 0, .int .i64 0, .string ⟨#[]⟩, .string ⟨#[]⟩, .string ⟨#[]⟩, .int .i64 0] 32))) := Lib.hid (Bt.of_gr ((Gr.refl w).alloc _))
  clear h
  go_enter Tryd.func34, Tryd.ntmps34
  go_wp2_with fail
  clear c0 c1 c2 c3 c4 c5 c6 c7 cf
  refine (Hq.out _ B1.out S1.out).mono ?_
  rintro e2 w2 ⟨rfl, hS2, hb2⟩
  have g2 := Lib.hid ((Gr.refl w2).alloc (.cells #[.int .i64 0, .int .i64 0, .string ⟨#[]⟩, .string ⟨#[]⟩, .string ⟨#[]⟩, .int .i64 0] 32))
  have S2 := Lib.hid (hS2.gr g2.out)
  have K2 := Lib.hid ((g2.out.block _ (Nat.lt_of_lt_of_le (Array.getElem?_eq_some_iff.1 K1.out).1 hb2.size)).trans ((hb2.block _ (Array.getElem?_eq_some_iff.1 K1.out).1 (by omega) (by omega)).trans K1.out))
  have B2 := Lib.hid ((B1.out.trans hb2).trans (Bt.of_gr g2.out))
  clear hS2 hb2 g2 S1 K1 B1
  go_wp2_with fail
  refine (HR.out _ B2.out S2.out).mono ?_
  rintro e6 w6 ⟨⟨q, hq, rfl⟩, hb6⟩
  go_wp2_with fail
  exact ⟨rfl, ⟨q, hq, rfl⟩, B2.out.trans hb6⟩
set_option maxRecDepth 100000 in
set_option maxHeartbeats 1000000 in
theorem tk_var_bad (h : Sc w P M s at_ en true tv bv ov) (hq : FindsN w 39 P M s at_ en true tv bv ov) (hh : FindsN w 40 P M s at_ en true tv bv ov) (hr : FailsG w 41 P M s at_ en true tv bv ov) :
    Calls Tryd.prog 34 #[.pointer (some ⟨P, 0, none⟩)] w fun e w' => Bad s e ∧ Bt P M.blk w w' := by
  have HR := Lib.hid hr
  unfold FailsG at HR
  clear hr
  have Hq := Lib.hid hq
  unfold FindsN at Hq
  clear hq
  have Hh := Lib.hid hh
  unfold FindsN at Hh
  clear hh
  have hP : P < w.heap.size := h.lt.1
  have hM : M.blk < w.heap.size := h.lt.2
  obtain ⟨c0, c1, c2, c3, c4, c5, c6, c7, cf⟩ := (h.gr ((Gr.refl w).alloc (.cells #[.int .i64 0, .int .i64 0, .string ⟨#[]⟩, .string ⟨#[]⟩, .string ⟨#[]⟩, .int .i64 0] 32))).cells
  have S1 := Lib.hid (h.gr ((Gr.refl w).alloc (.cells #[.int .i64 0, .int .i64 0, .string ⟨#[]⟩, .string ⟨#[]⟩, .string ⟨#[]⟩, .int .i64 0] 32)))
  have K1 : Hid ((w.alloc (.cells #[.int .i64 0, .int .i64 0, .string ⟨#[]⟩, .string ⟨#[]⟩, .string ⟨#[]⟩, .int .i64 0] 32)).heap[w.heap.size]? = some (.cells #[.int .i64 0, .int .i64 0, .string ⟨#[]⟩, .string ⟨#[]⟩, .string ⟨#[]⟩, .int .i64 0] 32 (0, 0))) := Lib.hid (heap_alloc_new w _)
  have B1 : Hid (Bt P M.blk w (w.alloc (.cells #[.int .i64 0, .int .i64 0, .string ⟨#[]⟩, .string ⟨#[]⟩, .string ⟨#[]⟩, .int .i64 0] 32))) := Lib.hid (Bt.of_gr ((Gr.refl w).alloc _))
  clear h
  go_enter Tryd.func34, Tryd.ntmps34
  go_wp2_with fail
  clear c0 c1 c2 c3 c4 c5 c6 c7 cf
  refine (Hq.out _ B1.out S1.out).mono ?_
  rintro e2 w2 ⟨rfl, hS2, hb2⟩
  have g2 := Lib.hid ((Gr.refl w2).alloc (.cells #[.int .i64 0, .int .i64 0, .string ⟨#[]⟩, .string ⟨#[]⟩, .string ⟨#[]⟩, .int .i64 0] 32))
  have S2 := Lib.hid (hS2.gr g2.out)
  have K2 := Lib.hid ((g2.out.block _ (Nat.lt_of_lt_of_le (Array.getElem?_eq_some_iff.1 K1.out).1 hb2.size)).trans ((hb2.block _ (Array.getElem?_eq_some_iff.1 K1.out).1 (by omega) (by omega)).trans K1.out))
  have B2 := Lib.hid ((B1.out.trans hb2).trans (Bt.of_gr g2.out))
  clear hS2 hb2 g2 S1 K1 B1
  go_wp2_with fail
  refine (Hh.out _ B2.out S2.out).mono ?_
  rintro e3 w3 ⟨rfl, hS3, hb3⟩
  have g3 := Lib.hid ((Gr.refl w3).alloc (.cells #[.int .i64 0, .int .i64 0, .string ⟨#[]⟩, .string ⟨#[]⟩, .string ⟨#[]⟩, .int .i64 0] 32))
  have S3 := Lib.hid (hS3.gr g3.out)
  have K3 := Lib.hid ((g3.out.block _ (Nat.lt_of_lt_of_le (Array.getElem?_eq_some_iff.1 K2.out).1 hb3.size)).trans ((hb3.block _ (Array.getElem?_eq_some_iff.1 K2.out).1 (by omega) (by omega)).trans K2.out))
  have B3 := Lib.hid ((B2.out.trans hb3).trans (Bt.of_gr g3.out))
  clear hS3 hb3 g3 S2 K2 B2
  go_wp2_with fail
  refine (HR.out _ B3.out S3.out).mono ?_
  rintro e6 w6 ⟨⟨q, hq, rfl⟩, hb6⟩
  go_wp2_with fail
  exact ⟨rfl, ⟨q, hq, rfl⟩, B3.out.trans hb6⟩
set_option maxRecDepth 100000 in
set_option maxHeartbeats 1000000 in
theorem tk_word_t_bad (h : Sc w P M s at_ en true tv bv ov) (hq : FindsN w 39 P M s at_ en true tv bv ov) (hh : FindsN w 40 P M s at_ en true tv bv ov) (hv : FindsN w 41 P M s at_ en true tv bv ov) (hx : s.data.toList[at_]? = some x) (ha : alphaB x.toNat = true) (hr : FailsG w 43 P M s at_ en true tv bv ov) :
    Calls Tryd.prog 34 #[.pointer (some ⟨P, 0, none⟩)] w fun e w' => Bad s e ∧ Bt P M.blk w w' := by
  have hL : at_ < s.data.toList.length := (List.getElem?_eq_some_iff.1 hx).1
  have hat : at_ < s.size := by rw [sizeL] at hL; exact hL
  have ex : s[at_] = x := by rw [byteE s at_ hat hL]; exact (List.getElem?_eq_some_iff.1 hx).2
  have hat' : (at_ : Int) < (s.size : Int) := by omega
  have HA := Lib.hid (fun w => alpha_p x.toNat w)
  rw [ha] at HA
  clear hx ha
  have HR := Lib.hid hr
  unfold FailsG at HR
  clear hr
  have Hq := Lib.hid hq
  unfold FindsN at Hq
  clear hq
  have Hh := Lib.hid hh
  unfold FindsN at Hh
  clear hh
  have Hv := Lib.hid hv
  unfold FindsN at Hv
  clear hv
  have hP : P < w.heap.size := h.lt.1
  have hM : M.blk < w.heap.size := h.lt.2
  obtain ⟨c0, c1, c2, c3, c4, c5, c6, c7, cf⟩ := (h.gr ((Gr.refl w).alloc (.cells #[.int .i64 0, .int .i64 0, .string ⟨#[]⟩, .string ⟨#[]⟩, .string ⟨#[]⟩, .int .i64 0] 32))).cells
  have S1 := Lib.hid (h.gr ((Gr.refl w).alloc (.cells #[.int .i64 0, .int .i64 0, .string ⟨#[]⟩, .string ⟨#[]⟩, .string ⟨#[]⟩, .int .i64 0] 32)))
  have K1 : Hid ((w.alloc (.cells #[.int .i64 0, .int .i64 0, .string ⟨#[]⟩, .string ⟨#[]⟩, .string ⟨#[]⟩, .int .i64 0] 32)).heap[w.heap.size]? = some (.cells #[.int .i64 0, .int .i64 0, .string ⟨#[]⟩, .string ⟨#[]⟩, .string ⟨#[]⟩, .int .i64 0] 32 (0, 0))) := Lib.hid (heap_alloc_new w _)
  have B1 : Hid (Bt P M.blk w (w.alloc (.cells #[.int .i64 0, .int .i64 0, .string ⟨#[]⟩, .string ⟨#[]⟩, .string ⟨#[]⟩, .int .i64 0] 32))) := Lib.hid (Bt.of_gr ((Gr.refl w).alloc _))
  clear h
  go_enter Tryd.func34, Tryd.ntmps34
  go_wp2_with fail
  clear c0 c1 c2 c3 c4 c5 c6 c7 cf
  refine (Hq.out _ B1.out S1.out).mono ?_
  rintro e2 w2 ⟨rfl, hS2, hb2⟩
  have g2 := Lib.hid ((Gr.refl w2).alloc (.cells #[.int .i64 0, .int .i64 0, .string ⟨#[]⟩, .string ⟨#[]⟩, .string ⟨#[]⟩, .int .i64 0] 32))
  have S2 := Lib.hid (hS2.gr g2.out)
  have K2 := Lib.hid ((g2.out.block _ (Nat.lt_of_lt_of_le (Array.getElem?_eq_some_iff.1 K1.out).1 hb2.size)).trans ((hb2.block _ (Array.getElem?_eq_some_iff.1 K1.out).1 (by omega) (by omega)).trans K1.out))
  have B2 := Lib.hid ((B1.out.trans hb2).trans (Bt.of_gr g2.out))
  clear hS2 hb2 g2 S1 K1 B1
  go_wp2_with fail
  refine (Hh.out _ B2.out S2.out).mono ?_
  rintro e3 w3 ⟨rfl, hS3, hb3⟩
  have g3 := Lib.hid ((Gr.refl w3).alloc (.cells #[.int .i64 0, .int .i64 0, .string ⟨#[]⟩, .string ⟨#[]⟩, .string ⟨#[]⟩, .int .i64 0] 32))
  have S3 := Lib.hid (hS3.gr g3.out)
  have K3 := Lib.hid ((g3.out.block _ (Nat.lt_of_lt_of_le (Array.getElem?_eq_some_iff.1 K2.out).1 hb3.size)).trans ((hb3.block _ (Array.getElem?_eq_some_iff.1 K2.out).1 (by omega) (by omega)).trans K2.out))
  have B3 := Lib.hid ((B2.out.trans hb3).trans (Bt.of_gr g3.out))
  clear hS3 hb3 g3 S2 K2 B2
  go_wp2_with fail
  refine (Hv.out _ B3.out S3.out).mono ?_
  rintro e4 w4 ⟨rfl, hS4, hb4⟩
  have g4 := Lib.hid ((Gr.refl w4).alloc (.cells #[.int .i64 0, .int .i64 0, .string ⟨#[]⟩, .string ⟨#[]⟩, .string ⟨#[]⟩, .int .i64 0] 32))
  have S4 := Lib.hid (hS4.gr g4.out)
  have K4 := Lib.hid ((g4.out.block _ (Nat.lt_of_lt_of_le (Array.getElem?_eq_some_iff.1 K3.out).1 hb4.size)).trans ((hb4.block _ (Array.getElem?_eq_some_iff.1 K3.out).1 (by omega) (by omega)).trans K3.out))
  have B4 := Lib.hid ((B3.out.trans hb4).trans (Bt.of_gr g4.out))
  clear hS4 hb4 g4 S3 K3 B3
  obtain ⟨c0, c1, c2, c3, c4, c5, c6, c7, cf⟩ := S4.out.cells
  go_wp2_with fail
  go_quiet (fail)
  clear c0 c1 c2 c3 c4 c5 c6 c7 cf
  go_wp2_with fail
  refine (HA.out _).mono ?_
  rintro e wa ⟨rfl, rfl⟩
  go_wp2_with fail
  refine (HR.out _ (B4.out.trans (Bt.of_gr ((Gr.refl _).drewN _))) (S4.out.gr ((Gr.refl _).drewN _))).mono ?_
  rintro e6 w6 ⟨⟨q, hq, rfl⟩, hb6⟩
  go_wp2_with fail
  exact ⟨rfl, ⟨q, hq, rfl⟩, (B4.out.trans (Bt.of_gr ((Gr.refl _).drewN _))).trans hb6⟩
set_option maxRecDepth 100000 in
set_option maxHeartbeats 1000000 in
theorem tk_word_f_bad (h : Sc w P M s at_ en false tv bv ov) (hx : s.data.toList[at_]? = some x) (ha : alphaB x.toNat = true) (hr : FailsG w 43 P M s at_ en false tv bv ov) :
    Calls Tryd.prog 34 #[.pointer (some ⟨P, 0, none⟩)] w fun e w' => Bad s e ∧ Bt P M.blk w w' := by
  have hL : at_ < s.data.toList.length := (List.getElem?_eq_some_iff.1 hx).1
  have hat : at_ < s.size := by rw [sizeL] at hL; exact hL
  have ex : s[at_] = x := by rw [byteE s at_ hat hL]; exact (List.getElem?_eq_some_iff.1 hx).2
  have hat' : (at_ : Int) < (s.size : Int) := by omega
  have HA := Lib.hid (fun w => alpha_p x.toNat w)
  rw [ha] at HA
  clear hx ha
  have HR := Lib.hid hr
  unfold FailsG at HR
  clear hr
  have hP : P < w.heap.size := h.lt.1
  have hM : M.blk < w.heap.size := h.lt.2
  obtain ⟨c0, c1, c2, c3, c4, c5, c6, c7, cf⟩ := (h.gr ((Gr.refl w).alloc (.cells #[.int .i64 0, .int .i64 0, .string ⟨#[]⟩, .string ⟨#[]⟩, .string ⟨#[]⟩, .int .i64 0] 32))).cells
  have S1 := Lib.hid (h.gr ((Gr.refl w).alloc (.cells #[.int .i64 0, .int .i64 0, .string ⟨#[]⟩, .string ⟨#[]⟩, .string ⟨#[]⟩, .int .i64 0] 32)))
  have K1 : Hid ((w.alloc (.cells #[.int .i64 0, .int .i64 0, .string ⟨#[]⟩, .string ⟨#[]⟩, .string ⟨#[]⟩, .int .i64 0] 32)).heap[w.heap.size]? = some (.cells #[.int .i64 0, .int .i64 0, .string ⟨#[]⟩, .string ⟨#[]⟩, .string ⟨#[]⟩, .int .i64 0] 32 (0, 0))) := Lib.hid (heap_alloc_new w _)
  have B1 : Hid (Bt P M.blk w (w.alloc (.cells #[.int .i64 0, .int .i64 0, .string ⟨#[]⟩, .string ⟨#[]⟩, .string ⟨#[]⟩, .int .i64 0] 32))) := Lib.hid (Bt.of_gr ((Gr.refl w).alloc _))
  clear h
  go_enter Tryd.func34, Tryd.ntmps34
  go_wp2_with fail
  go_quiet (fail)
  clear c0 c1 c2 c3 c4 c5 c6 c7 cf
  go_wp2_with fail
  refine (HA.out _).mono ?_
  rintro e wa ⟨rfl, rfl⟩
  go_wp2_with fail
  refine (HR.out _ (B1.out.trans (Bt.of_gr ((Gr.refl _).drewN _))) (S1.out.gr ((Gr.refl _).drewN _))).mono ?_
  rintro e6 w6 ⟨⟨q, hq, rfl⟩, hb6⟩
  go_wp2_with fail
  exact ⟨rfl, ⟨q, hq, rfl⟩, (B1.out.trans (Bt.of_gr ((Gr.refl _).drewN _))).trans hb6⟩
set_option maxRecDepth 100000 in
set_option maxHeartbeats 1000000 in
theorem tk_sign_t_bad (h : Sc w P M s at_ en true tv bv ov) (hq : FindsN w 39 P M s at_ en true tv bv ov) (hh : FindsN w 40 P M s at_ en true tv bv ov) (hv : FindsN w 41 P M s at_ en true tv bv ov) (hx : s.data.toList[at_]? = some x) (ha : alphaB x.toNat = false) (hd : digB x.toNat = false) (hr : FailsG w 46 P M s at_ en true tv bv ov) :
    Calls Tryd.prog 34 #[.pointer (some ⟨P, 0, none⟩)] w fun e w' => Bad s e ∧ Bt P M.blk w w' := by
  have hL : at_ < s.data.toList.length := (List.getElem?_eq_some_iff.1 hx).1
  have hat : at_ < s.size := by rw [sizeL] at hL; exact hL
  have ex : s[at_] = x := by rw [byteE s at_ hat hL]; exact (List.getElem?_eq_some_iff.1 hx).2
  have hat' : (at_ : Int) < (s.size : Int) := by omega
  have HA := Lib.hid (fun w => alpha_p x.toNat w)
  rw [ha] at HA
  have HD := Lib.hid (fun w => dig_p x.toNat w)
  rw [hd] at HD
  clear hx ha hd
  have HR := Lib.hid hr
  unfold FailsG at HR
  clear hr
  have Hq := Lib.hid hq
  unfold FindsN at Hq
  clear hq
  have Hh := Lib.hid hh
  unfold FindsN at Hh
  clear hh
  have Hv := Lib.hid hv
  unfold FindsN at Hv
  clear hv
  have hP : P < w.heap.size := h.lt.1
  have hM : M.blk < w.heap.size := h.lt.2
  obtain ⟨c0, c1, c2, c3, c4, c5, c6, c7, cf⟩ := (h.gr ((Gr.refl w).alloc (.cells #[.int .i64 0, .int .i64 0, .string ⟨#[]⟩, .string ⟨#[]⟩, .string ⟨#[]⟩, .int .i64 0] 32))).cells
  have S1 := Lib.hid (h.gr ((Gr.refl w).alloc (.cells #[.int .i64 0, .int .i64 0, .string ⟨#[]⟩, .string ⟨#[]⟩, .string ⟨#[]⟩, .int .i64 0] 32)))
  have K1 : Hid ((w.alloc (.cells #[.int .i64 0, .int .i64 0, .string ⟨#[]⟩, .string ⟨#[]⟩, .string ⟨#[]⟩, .int .i64 0] 32)).heap[w.heap.size]? = some (.cells #[.int .i64 0, .int .i64 0, .string ⟨#[]⟩, .string ⟨#[]⟩, .string ⟨#[]⟩, .int .i64 0] 32 (0, 0))) := Lib.hid (heap_alloc_new w _)
  have B1 : Hid (Bt P M.blk w (w.alloc (.cells #[.int .i64 0, .int .i64 0, .string ⟨#[]⟩, .string ⟨#[]⟩, .string ⟨#[]⟩, .int .i64 0] 32))) := Lib.hid (Bt.of_gr ((Gr.refl w).alloc _))
  clear h
  go_enter Tryd.func34, Tryd.ntmps34
  go_wp2_with fail
  clear c0 c1 c2 c3 c4 c5 c6 c7 cf
  refine (Hq.out _ B1.out S1.out).mono ?_
  rintro e2 w2 ⟨rfl, hS2, hb2⟩
  have g2 := Lib.hid ((Gr.refl w2).alloc (.cells #[.int .i64 0, .int .i64 0, .string ⟨#[]⟩, .string ⟨#[]⟩, .string ⟨#[]⟩, .int .i64 0] 32))
  have S2 := Lib.hid (hS2.gr g2.out)
  have K2 := Lib.hid ((g2.out.block _ (Nat.lt_of_lt_of_le (Array.getElem?_eq_some_iff.1 K1.out).1 hb2.size)).trans ((hb2.block _ (Array.getElem?_eq_some_iff.1 K1.out).1 (by omega) (by omega)).trans K1.out))
  have B2 := Lib.hid ((B1.out.trans hb2).trans (Bt.of_gr g2.out))
  clear hS2 hb2 g2 S1 K1 B1
  go_wp2_with fail
  refine (Hh.out _ B2.out S2.out).mono ?_
  rintro e3 w3 ⟨rfl, hS3, hb3⟩
  have g3 := Lib.hid ((Gr.refl w3).alloc (.cells #[.int .i64 0, .int .i64 0, .string ⟨#[]⟩, .string ⟨#[]⟩, .string ⟨#[]⟩, .int .i64 0] 32))
  have S3 := Lib.hid (hS3.gr g3.out)
  have K3 := Lib.hid ((g3.out.block _ (Nat.lt_of_lt_of_le (Array.getElem?_eq_some_iff.1 K2.out).1 hb3.size)).trans ((hb3.block _ (Array.getElem?_eq_some_iff.1 K2.out).1 (by omega) (by omega)).trans K2.out))
  have B3 := Lib.hid ((B2.out.trans hb3).trans (Bt.of_gr g3.out))
  clear hS3 hb3 g3 S2 K2 B2
  go_wp2_with fail
  refine (Hv.out _ B3.out S3.out).mono ?_
  rintro e4 w4 ⟨rfl, hS4, hb4⟩
  have g4 := Lib.hid ((Gr.refl w4).alloc (.cells #[.int .i64 0, .int .i64 0, .string ⟨#[]⟩, .string ⟨#[]⟩, .string ⟨#[]⟩, .int .i64 0] 32))
  have S4 := Lib.hid (hS4.gr g4.out)
  have K4 := Lib.hid ((g4.out.block _ (Nat.lt_of_lt_of_le (Array.getElem?_eq_some_iff.1 K3.out).1 hb4.size)).trans ((hb4.block _ (Array.getElem?_eq_some_iff.1 K3.out).1 (by omega) (by omega)).trans K3.out))
  have B4 := Lib.hid ((B3.out.trans hb4).trans (Bt.of_gr g4.out))
  clear hS4 hb4 g4 S3 K3 B3
  obtain ⟨c0, c1, c2, c3, c4, c5, c6, c7, cf⟩ := S4.out.cells
  go_wp2_with fail
  go_quiet (fail)
  clear c0 c1 c2 c3 c4 c5 c6 c7 cf
  go_wp2_with fail
  refine (HA.out _).mono ?_
  rintro e wa ⟨rfl, rfl⟩
  go_wp2_with fail
  refine (HD.out _).mono ?_
  rintro e wa ⟨rfl, rfl⟩
  go_wp2_with fail
  refine (HR.out _ (B4.out.trans (Bt.of_gr ((Gr.refl _).drewN _))) (S4.out.gr ((Gr.refl _).drewN _))).mono ?_
  rintro e6 w6 ⟨⟨q, hq, rfl⟩, hb6⟩
  go_wp2_with fail
  exact ⟨rfl, ⟨q, hq, rfl⟩, (B4.out.trans (Bt.of_gr ((Gr.refl _).drewN _))).trans hb6⟩
set_option maxRecDepth 100000 in
set_option maxHeartbeats 1000000 in
theorem tk_sign_f_bad (h : Sc w P M s at_ en false tv bv ov) (hx : s.data.toList[at_]? = some x) (ha : alphaB x.toNat = false) (hd : digB x.toNat = false) (hr : FailsG w 46 P M s at_ en false tv bv ov) :
    Calls Tryd.prog 34 #[.pointer (some ⟨P, 0, none⟩)] w fun e w' => Bad s e ∧ Bt P M.blk w w' := by
  have hL : at_ < s.data.toList.length := (List.getElem?_eq_some_iff.1 hx).1
  have hat : at_ < s.size := by rw [sizeL] at hL; exact hL
  have ex : s[at_] = x := by rw [byteE s at_ hat hL]; exact (List.getElem?_eq_some_iff.1 hx).2
  have hat' : (at_ : Int) < (s.size : Int) := by omega
  have HA := Lib.hid (fun w => alpha_p x.toNat w)
  rw [ha] at HA
  have HD := Lib.hid (fun w => dig_p x.toNat w)
  rw [hd] at HD
  clear hx ha hd
  have HR := Lib.hid hr
  unfold FailsG at HR
  clear hr
  have hP : P < w.heap.size := h.lt.1
  have hM : M.blk < w.heap.size := h.lt.2
  obtain ⟨c0, c1, c2, c3, c4, c5, c6, c7, cf⟩ := (h.gr ((Gr.refl w).alloc (.cells #[.int .i64 0, .int .i64 0, .string ⟨#[]⟩, .string ⟨#[]⟩, .string ⟨#[]⟩, .int .i64 0] 32))).cells
  have S1 := Lib.hid (h.gr ((Gr.refl w).alloc (.cells #[.int .i64 0, .int .i64 0, .string ⟨#[]⟩, .string ⟨#[]⟩, .string ⟨#[]⟩, .int .i64 0] 32)))
  have K1 : Hid ((w.alloc (.cells #[.int .i64 0, .int .i64 0, .string ⟨#[]⟩, .string ⟨#[]⟩, .string ⟨#[]⟩, .int .i64 0] 32)).heap[w.heap.size]? = some (.cells #[.int .i64 0, .int .i64 0, .string ⟨#[]⟩, .string ⟨#[]⟩, .string ⟨#[]⟩, .int .i64 0] 32 (0, 0))) := Lib.hid (heap_alloc_new w _)
  have B1 : Hid (Bt P M.blk w (w.alloc (.cells #[.int .i64 0, .int .i64 0, .string ⟨#[]⟩, .string ⟨#[]⟩, .string ⟨#[]⟩, .int .i64 0] 32))) := Lib.hid (Bt.of_gr ((Gr.refl w).alloc _))
  clear h
  go_enter Tryd.func34, Tryd.ntmps34
  go_wp2_with fail
  go_quiet (fail)
  clear c0 c1 c2 c3 c4 c5 c6 c7 cf
  go_wp2_with fail
  refine (HA.out _).mono ?_
  rintro e wa ⟨rfl, rfl⟩
  go_wp2_with fail
  refine (HD.out _).mono ?_
  rintro e wa ⟨rfl, rfl⟩
  go_wp2_with fail
  refine (HR.out _ (B1.out.trans (Bt.of_gr ((Gr.refl _).drewN _))) (S1.out.gr ((Gr.refl _).drewN _))).mono ?_
  rintro e6 w6 ⟨⟨q, hq, rfl⟩, hb6⟩
  go_wp2_with fail
  exact ⟨rfl, ⟨q, hq, rfl⟩, (B1.out.trans (Bt.of_gr ((Gr.refl _).drewN _))).trans hb6⟩
end Go.Proofs.YthmopindibdhnaaDoor.G
