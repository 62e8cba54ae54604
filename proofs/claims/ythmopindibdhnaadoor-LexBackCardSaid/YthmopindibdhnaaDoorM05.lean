/- LToken LBeh GCm LWordR -/
import Derived.Test.YthmopindibdhnaaDoorM04
import Derived.Test.YthmopindibdhnaaDoorM02
namespace Go.Proofs.YthmopindibdhnaaDoor
open Go.RowKit Go.Shelf
/-- the function K reads the token tk, and comes to place b -/
def Reads (K : Nat) (P M : Nat) (s : ByteArray) (a b en : Nat) (tm : Bool) (tv bv ov : Value) (tk : Tok) : Prop :=
  ∀ W, Sc W P M s a en tm tv bv ov → Calls Tryd.prog K #[.pointer (some ⟨P, 0, none⟩)] W fun e w' => e = .returned tk.val ∧ Sc w' P M s b en tm tv bv ov ∧ But P W w'
/-- the function K finds the token tk, and comes to place b -/
def Finds (K : Nat) (P M : Nat) (s : ByteArray) (a b en : Nat) (tm : Bool) (tv bv ov : Value) (tk : Tok) (is : Bool) : Prop :=
  ∀ W, Sc W P M s a en tm tv bv ov → Calls Tryd.prog K #[.pointer (some ⟨P, 0, none⟩)] W fun e w' => e = .returned (.tuple #[tk.val, .bool is]) ∧ Sc w' P M s b en tm tv bv ov ∧ But P W w'
theorem tok0_val : tok0.val = .agg #[.int .i64 0, .int .i64 0, .string ⟨#[]⟩, .string ⟨#[]⟩, .string ⟨#[]⟩, .int .i64 0] := rfl
variable {w : World} {P M : Nat} {s : ByteArray} {at_ en b : Nat} {tm : Bool} {tv bv ov : Value} {tk : Tok} {x : UInt8}
set_option maxRecDepth 100000 in
set_option maxHeartbeats 1000000 in
theorem token_word_t (h : Sc w P M s at_ en true tv bv ov) (hx : s.data.toList[at_]? = some x) (ha : alphaB x.toNat = true) (hq : Finds 39 P M s at_ at_ en true tv bv ov tok0 false) (hh : Finds 40 P M s at_ at_ en true tv bv ov tok0 false) (hv : Finds 41 P M s at_ at_ en true tv bv ov tok0 false) (hr : Reads 43 P M s at_ b en true tv bv ov tk) :
    Calls Tryd.prog 34 #[.pointer (some ⟨P, 0, none⟩)] w fun e w' => e = .returned tk.val ∧ Sc w' P M s b en true tv bv ov ∧ But P w w' := by
  have hL : at_ < s.data.toList.length := (List.getElem?_eq_some_iff.1 hx).1
  have hat : at_ < s.size := by rw [sizeL] at hL; exact hL
  have ex : s[at_] = x := by rw [byteE s at_ hat hL]; exact (List.getElem?_eq_some_iff.1 hx).2
  have hat' : (at_ : Int) < (s.size : Int) := by omega
  have HA := Lib.hid (fun w => alpha_p x.toNat w)
  have HD := Lib.hid (fun w => dig_p x.toNat w)
  rw [ha] at HA
  have HR := Lib.hid hr
  unfold Reads at HR
  clear hr hx ha HD
  have HQ := Lib.hid hq
  unfold Finds at HQ
  rw [tok0_val] at HQ
  have HH := Lib.hid hh
  unfold Finds at HH
  rw [tok0_val] at HH
  clear hq hh
  have HV := Lib.hid hv
  unfold Finds at HV
  rw [tok0_val] at HV
  clear hv
  have H := Lib.hid h
  have hP : P < w.heap.size := h.lt.1
  have hM : M < w.heap.size := h.lt.2
  obtain ⟨c0, c1, c2, c3, c4, c5, c6, c7, cf⟩ := (h.gr ((Gr.refl w).alloc (.cells #[.int .i64 0, .int .i64 0, .string ⟨#[]⟩, .string ⟨#[]⟩, .string ⟨#[]⟩, .int .i64 0] 32))).cells
  have S1 := Lib.hid (h.gr ((Gr.refl w).alloc (.cells #[.int .i64 0, .int .i64 0, .string ⟨#[]⟩, .string ⟨#[]⟩, .string ⟨#[]⟩, .int .i64 0] 32)))
  have K1 : Hid ((w.alloc (.cells #[.int .i64 0, .int .i64 0, .string ⟨#[]⟩, .string ⟨#[]⟩, .string ⟨#[]⟩, .int .i64 0] 32)).heap[w.heap.size]? = some (.cells #[.int .i64 0, .int .i64 0, .string ⟨#[]⟩, .string ⟨#[]⟩, .string ⟨#[]⟩, .int .i64 0] 32 (0, 0))) := Lib.hid (heap_alloc_new w _)
  have B1 := Lib.hid (But.of_gr (P := P) ((Gr.refl w).alloc (.cells #[.int .i64 0, .int .i64 0, .string ⟨#[]⟩, .string ⟨#[]⟩, .string ⟨#[]⟩, .int .i64 0] 32)))
  clear h
  go_enter Tryd.func34, Tryd.ntmps34
  go_wp2_with fail
  clear c0 c1 c2 c3 c4 c5 c6 c7 cf
  refine (HQ.out _ S1.out).mono ?_
  rintro e2 w2 ⟨rfl, hS2, hb2⟩
  have g2 := Lib.hid ((Gr.refl w2).alloc (.cells #[.int .i64 0, .int .i64 0, .string ⟨#[]⟩, .string ⟨#[]⟩, .string ⟨#[]⟩, .int .i64 0] 32))
  have S2 := Lib.hid (hS2.gr g2.out)
  have K2 := Lib.hid ((g2.out.block _ (Nat.lt_of_lt_of_le (Array.getElem?_eq_some_iff.1 K1.out).1 hb2.size)).trans ((hb2.block _ (Array.getElem?_eq_some_iff.1 K1.out).1 (by simp; omega)).trans K1.out))
  have B2 := Lib.hid ((B1.out.trans hb2).trans (But.of_gr g2.out))
  clear hS2 hb2 g2 S1 K1 B1
  go_wp2_with fail
  refine (HH.out _ S2.out).mono ?_
  rintro e3 w3 ⟨rfl, hS3, hb3⟩
  have g3 := Lib.hid ((Gr.refl w3).alloc (.cells #[.int .i64 0, .int .i64 0, .string ⟨#[]⟩, .string ⟨#[]⟩, .string ⟨#[]⟩, .int .i64 0] 32))
  have S3 := Lib.hid (hS3.gr g3.out)
  have K3 := Lib.hid ((g3.out.block _ (Nat.lt_of_lt_of_le (Array.getElem?_eq_some_iff.1 K2.out).1 hb3.size)).trans ((hb3.block _ (Array.getElem?_eq_some_iff.1 K2.out).1 (by simp; omega)).trans K2.out))
  have B3 := Lib.hid ((B2.out.trans hb3).trans (But.of_gr g3.out))
  clear hS3 hb3 g3 S2 K2 B2
  go_wp2_with fail
  refine (HV.out _ S3.out).mono ?_
  rintro e4 w4 ⟨rfl, hS4, hb4⟩
  have g4 := Lib.hid ((Gr.refl w4).alloc (.cells #[.int .i64 0, .int .i64 0, .string ⟨#[]⟩, .string ⟨#[]⟩, .string ⟨#[]⟩, .int .i64 0] 32))
  have S4 := Lib.hid (hS4.gr g4.out)
  have K4 := Lib.hid ((g4.out.block _ (Nat.lt_of_lt_of_le (Array.getElem?_eq_some_iff.1 K3.out).1 hb4.size)).trans ((hb4.block _ (Array.getElem?_eq_some_iff.1 K3.out).1 (by simp; omega)).trans K3.out))
  have B4 := Lib.hid ((B3.out.trans hb4).trans (But.of_gr g4.out))
  clear hS4 hb4 g4 S3 K3 B3
  obtain ⟨c0, c1, c2, c3, c4, c5, c6, c7, cf⟩ := S4.out.cells
  go_wp2_with fail
  go_quiet (fail)
  clear c0 c1 c2 c3 c4 c5 c6 c7 cf
  go_wp2_with fail
  refine (HA.out _).mono ?_
  rintro e w5 ⟨rfl, rfl⟩
  go_wp2_with fail
  refine (HR.out _ (S4.out.gr ((Gr.refl _).drewN _))).mono ?_
  rintro e w6 ⟨rfl, hS6, hb6⟩
  have S6 := Lib.hid hS6
  have K6 := Lib.hid ((hb6.block _ (Array.getElem?_eq_some_iff.1 K4.out).1 (by simp; omega)).trans K4.out)
  have B6 := Lib.hid ((B4.out.trans (But.of_gr ((Gr.refl _).drewN _))).trans hb6)
  clear hS6 hb6 S4 K4 B4 HR
  go_wp2_with (refine wpList_store_tok rfl (.tmp 2) (.tmp 48) rfl (t := tk) rfl rfl K6.out rfl ?_)
  intro W9 hb9 hk9
  have B9 := Lib.hid hb9
  have K9 := Lib.hid hk9
  clear hb9 hk9
  go_wp2_with fail
  refine bodyPost_ret (results_tok rfl rfl K9.out) rfl ?_
  exact ⟨rfl, S6.out.but B9.out (by omega) (by omega), B6.out.late (Nat.le_refl _) B9.out⟩
set_option maxRecDepth 100000 in
set_option maxHeartbeats 1000000 in
theorem token_number_t (h : Sc w P M s at_ en true tv bv ov) (hx : s.data.toList[at_]? = some x) (ha : alphaB x.toNat = false) (hd : digB x.toNat = true) (hq : Finds 39 P M s at_ at_ en true tv bv ov tok0 false) (hh : Finds 40 P M s at_ at_ en true tv bv ov tok0 false) (hv : Finds 41 P M s at_ at_ en true tv bv ov tok0 false) (hr : Reads 45 P M s at_ b en true tv bv ov tk) :
    Calls Tryd.prog 34 #[.pointer (some ⟨P, 0, none⟩)] w fun e w' => e = .returned tk.val ∧ Sc w' P M s b en true tv bv ov ∧ But P w w' := by
  have hL : at_ < s.data.toList.length := (List.getElem?_eq_some_iff.1 hx).1
  have hat : at_ < s.size := by rw [sizeL] at hL; exact hL
  have ex : s[at_] = x := by rw [byteE s at_ hat hL]; exact (List.getElem?_eq_some_iff.1 hx).2
  have hat' : (at_ : Int) < (s.size : Int) := by omega
  have HA := Lib.hid (fun w => alpha_p x.toNat w)
  have HD := Lib.hid (fun w => dig_p x.toNat w)
  rw [ha] at HA
  rw [hd] at HD
  have HR := Lib.hid hr
  unfold Reads at HR
  clear hr hx ha hd
  have HQ := Lib.hid hq
  unfold Finds at HQ
  rw [tok0_val] at HQ
  have HH := Lib.hid hh
  unfold Finds at HH
  rw [tok0_val] at HH
  clear hq hh
  have HV := Lib.hid hv
  unfold Finds at HV
  rw [tok0_val] at HV
  clear hv
  have H := Lib.hid h
  have hP : P < w.heap.size := h.lt.1
  have hM : M < w.heap.size := h.lt.2
  obtain ⟨c0, c1, c2, c3, c4, c5, c6, c7, cf⟩ := (h.gr ((Gr.refl w).alloc (.cells #[.int .i64 0, .int .i64 0, .string ⟨#[]⟩, .string ⟨#[]⟩, .string ⟨#[]⟩, .int .i64 0] 32))).cells
  have S1 := Lib.hid (h.gr ((Gr.refl w).alloc (.cells #[.int .i64 0, .int .i64 0, .string ⟨#[]⟩, .string ⟨#[]⟩, .string ⟨#[]⟩, .int .i64 0] 32)))
  have K1 : Hid ((w.alloc (.cells #[.int .i64 0, .int .i64 0, .string ⟨#[]⟩, .string ⟨#[]⟩, .string ⟨#[]⟩, .int .i64 0] 32)).heap[w.heap.size]? = some (.cells #[.int .i64 0, .int .i64 0, .string ⟨#[]⟩, .string ⟨#[]⟩, .string ⟨#[]⟩, .int .i64 0] 32 (0, 0))) := Lib.hid (heap_alloc_new w _)
  have B1 := Lib.hid (But.of_gr (P := P) ((Gr.refl w).alloc (.cells #[.int .i64 0, .int .i64 0, .string ⟨#[]⟩, .string ⟨#[]⟩, .string ⟨#[]⟩, .int .i64 0] 32)))
  clear h
  go_enter Tryd.func34, Tryd.ntmps34
  go_wp2_with fail
  clear c0 c1 c2 c3 c4 c5 c6 c7 cf
  refine (HQ.out _ S1.out).mono ?_
  rintro e2 w2 ⟨rfl, hS2, hb2⟩
  have g2 := Lib.hid ((Gr.refl w2).alloc (.cells #[.int .i64 0, .int .i64 0, .string ⟨#[]⟩, .string ⟨#[]⟩, .string ⟨#[]⟩, .int .i64 0] 32))
  have S2 := Lib.hid (hS2.gr g2.out)
  have K2 := Lib.hid ((g2.out.block _ (Nat.lt_of_lt_of_le (Array.getElem?_eq_some_iff.1 K1.out).1 hb2.size)).trans ((hb2.block _ (Array.getElem?_eq_some_iff.1 K1.out).1 (by simp; omega)).trans K1.out))
  have B2 := Lib.hid ((B1.out.trans hb2).trans (But.of_gr g2.out))
  clear hS2 hb2 g2 S1 K1 B1
  go_wp2_with fail
  refine (HH.out _ S2.out).mono ?_
  rintro e3 w3 ⟨rfl, hS3, hb3⟩
  have g3 := Lib.hid ((Gr.refl w3).alloc (.cells #[.int .i64 0, .int .i64 0, .string ⟨#[]⟩, .string ⟨#[]⟩, .string ⟨#[]⟩, .int .i64 0] 32))
  have S3 := Lib.hid (hS3.gr g3.out)
  have K3 := Lib.hid ((g3.out.block _ (Nat.lt_of_lt_of_le (Array.getElem?_eq_some_iff.1 K2.out).1 hb3.size)).trans ((hb3.block _ (Array.getElem?_eq_some_iff.1 K2.out).1 (by simp; omega)).trans K2.out))
  have B3 := Lib.hid ((B2.out.trans hb3).trans (But.of_gr g3.out))
  clear hS3 hb3 g3 S2 K2 B2
  go_wp2_with fail
  refine (HV.out _ S3.out).mono ?_
  rintro e4 w4 ⟨rfl, hS4, hb4⟩
  have g4 := Lib.hid ((Gr.refl w4).alloc (.cells #[.int .i64 0, .int .i64 0, .string ⟨#[]⟩, .string ⟨#[]⟩, .string ⟨#[]⟩, .int .i64 0] 32))
  have S4 := Lib.hid (hS4.gr g4.out)
  have K4 := Lib.hid ((g4.out.block _ (Nat.lt_of_lt_of_le (Array.getElem?_eq_some_iff.1 K3.out).1 hb4.size)).trans ((hb4.block _ (Array.getElem?_eq_some_iff.1 K3.out).1 (by simp; omega)).trans K3.out))
  have B4 := Lib.hid ((B3.out.trans hb4).trans (But.of_gr g4.out))
  clear hS4 hb4 g4 S3 K3 B3
  obtain ⟨c0, c1, c2, c3, c4, c5, c6, c7, cf⟩ := S4.out.cells
  go_wp2_with fail
  go_quiet (fail)
  clear c0 c1 c2 c3 c4 c5 c6 c7 cf
  go_wp2_with fail
  refine (HA.out _).mono ?_
  rintro e w5 ⟨rfl, rfl⟩
  go_wp2_with fail
  refine (HD.out _).mono ?_
  rintro e w5 ⟨rfl, rfl⟩
  go_wp2_with fail
  refine (HR.out _ (S4.out.gr ((Gr.refl _).drewN _))).mono ?_
  rintro e w6 ⟨rfl, hS6, hb6⟩
  have S6 := Lib.hid hS6
  have K6 := Lib.hid ((hb6.block _ (Array.getElem?_eq_some_iff.1 K4.out).1 (by simp; omega)).trans K4.out)
  have B6 := Lib.hid ((B4.out.trans (But.of_gr ((Gr.refl _).drewN _))).trans hb6)
  clear hS6 hb6 S4 K4 B4 HR
  go_wp2_with (refine wpList_store_tok rfl (.tmp 2) (.tmp 53) rfl (t := tk) rfl rfl K6.out rfl ?_)
  intro W9 hb9 hk9
  have B9 := Lib.hid hb9
  have K9 := Lib.hid hk9
  clear hb9 hk9
  go_wp2_with fail
  refine bodyPost_ret (results_tok rfl rfl K9.out) rfl ?_
  exact ⟨rfl, S6.out.but B9.out (by omega) (by omega), B6.out.late (Nat.le_refl _) B9.out⟩
set_option maxRecDepth 100000 in
set_option maxHeartbeats 1000000 in
theorem token_sign_f (h : Sc w P M s at_ en false tv bv ov) (hx : s.data.toList[at_]? = some x) (ha : alphaB x.toNat = false) (hd : digB x.toNat = false)  (hr : Reads 46 P M s at_ b en false tv bv ov tk) :
    Calls Tryd.prog 34 #[.pointer (some ⟨P, 0, none⟩)] w fun e w' => e = .returned tk.val ∧ Sc w' P M s b en false tv bv ov ∧ But P w w' := by
  have hL : at_ < s.data.toList.length := (List.getElem?_eq_some_iff.1 hx).1
  have hat : at_ < s.size := by rw [sizeL] at hL; exact hL
  have ex : s[at_] = x := by rw [byteE s at_ hat hL]; exact (List.getElem?_eq_some_iff.1 hx).2
  have hat' : (at_ : Int) < (s.size : Int) := by omega
  have HA := Lib.hid (fun w => alpha_p x.toNat w)
  have HD := Lib.hid (fun w => dig_p x.toNat w)
  rw [ha] at HA
  rw [hd] at HD
  have HR := Lib.hid hr
  unfold Reads at HR
  clear hr hx ha hd
  have H := Lib.hid h
  have hP : P < w.heap.size := h.lt.1
  have hM : M < w.heap.size := h.lt.2
  obtain ⟨c0, c1, c2, c3, c4, c5, c6, c7, cf⟩ := (h.gr ((Gr.refl w).alloc (.cells #[.int .i64 0, .int .i64 0, .string ⟨#[]⟩, .string ⟨#[]⟩, .string ⟨#[]⟩, .int .i64 0] 32))).cells
  have S1 := Lib.hid (h.gr ((Gr.refl w).alloc (.cells #[.int .i64 0, .int .i64 0, .string ⟨#[]⟩, .string ⟨#[]⟩, .string ⟨#[]⟩, .int .i64 0] 32)))
  have K1 : Hid ((w.alloc (.cells #[.int .i64 0, .int .i64 0, .string ⟨#[]⟩, .string ⟨#[]⟩, .string ⟨#[]⟩, .int .i64 0] 32)).heap[w.heap.size]? = some (.cells #[.int .i64 0, .int .i64 0, .string ⟨#[]⟩, .string ⟨#[]⟩, .string ⟨#[]⟩, .int .i64 0] 32 (0, 0))) := Lib.hid (heap_alloc_new w _)
  have B1 := Lib.hid (But.of_gr (P := P) ((Gr.refl w).alloc (.cells #[.int .i64 0, .int .i64 0, .string ⟨#[]⟩, .string ⟨#[]⟩, .string ⟨#[]⟩, .int .i64 0] 32)))
  clear h
  go_enter Tryd.func34, Tryd.ntmps34
  go_wp2_with fail
  go_quiet (fail)
  clear c0 c1 c2 c3 c4 c5 c6 c7 cf
  go_wp2_with fail
  refine (HA.out _).mono ?_
  rintro e w5 ⟨rfl, rfl⟩
  go_wp2_with fail
  refine (HD.out _).mono ?_
  rintro e w5 ⟨rfl, rfl⟩
  go_wp2_with fail
  refine (HR.out _ (S1.out.gr ((Gr.refl _).drewN _))).mono ?_
  rintro e w6 ⟨rfl, hS6, hb6⟩
  have S6 := Lib.hid hS6
  have K6 := Lib.hid ((hb6.block _ (Array.getElem?_eq_some_iff.1 K1.out).1 (by simp; omega)).trans K1.out)
  have B6 := Lib.hid ((B1.out.trans (But.of_gr ((Gr.refl _).drewN _))).trans hb6)
  clear hS6 hb6 S1 K1 B1 HR
  go_wp2_with (refine wpList_store_tok rfl (.tmp 2) (.tmp 55) rfl (t := tk) rfl rfl K6.out rfl ?_)
  intro W9 hb9 hk9
  have B9 := Lib.hid hb9
  have K9 := Lib.hid hk9
  clear hb9 hk9
  go_wp2_with fail
  refine bodyPost_ret (results_tok rfl rfl K9.out) rfl ?_
  exact ⟨rfl, S6.out.but B9.out (by omega) (by omega), B6.out.late (Nat.le_refl _) B9.out⟩
set_option maxRecDepth 100000 in
set_option maxHeartbeats 1000000 in
theorem token_variable (h : Sc w P M s at_ en true tv bv ov) (hq : Finds 39 P M s at_ at_ en true tv bv ov tok0 false) (hh : Finds 40 P M s at_ at_ en true tv bv ov tok0 false) (hf : Finds 41 P M s at_ b en true tv bv ov tk true) :
    Calls Tryd.prog 34 #[.pointer (some ⟨P, 0, none⟩)] w fun e w' => e = .returned tk.val ∧ Sc w' P M s b en true tv bv ov ∧ But P w w' := by
  have HF := Lib.hid hf
  unfold Finds at HF
  rw [show tk.val = .agg #[.int .i64 tk.kind, .int .i64 tk.place, .string tk.text, .string tk.repl, .string tk.more, .int .i64 tk.opn] from rfl] at HF
  clear hf
  have HQ := Lib.hid hq
  unfold Finds at HQ
  rw [tok0_val] at HQ
  have HH := Lib.hid hh
  unfold Finds at HH
  rw [tok0_val] at HH
  clear hq hh
  have H := Lib.hid h
  have hP : P < w.heap.size := h.lt.1
  have hM : M < w.heap.size := h.lt.2
  obtain ⟨c0, c1, c2, c3, c4, c5, c6, c7, cf⟩ := (h.gr ((Gr.refl w).alloc (.cells #[.int .i64 0, .int .i64 0, .string ⟨#[]⟩, .string ⟨#[]⟩, .string ⟨#[]⟩, .int .i64 0] 32))).cells
  have S1 := Lib.hid (h.gr ((Gr.refl w).alloc (.cells #[.int .i64 0, .int .i64 0, .string ⟨#[]⟩, .string ⟨#[]⟩, .string ⟨#[]⟩, .int .i64 0] 32)))
  have K1 : Hid ((w.alloc (.cells #[.int .i64 0, .int .i64 0, .string ⟨#[]⟩, .string ⟨#[]⟩, .string ⟨#[]⟩, .int .i64 0] 32)).heap[w.heap.size]? = some (.cells #[.int .i64 0, .int .i64 0, .string ⟨#[]⟩, .string ⟨#[]⟩, .string ⟨#[]⟩, .int .i64 0] 32 (0, 0))) := Lib.hid (heap_alloc_new w _)
  have B1 := Lib.hid (But.of_gr (P := P) ((Gr.refl w).alloc (.cells #[.int .i64 0, .int .i64 0, .string ⟨#[]⟩, .string ⟨#[]⟩, .string ⟨#[]⟩, .int .i64 0] 32)))
  clear h
  go_enter Tryd.func34, Tryd.ntmps34
  go_wp2_with fail
  clear c0 c1 c2 c3 c4 c5 c6 c7 cf
  refine (HQ.out _ S1.out).mono ?_
  rintro e2 w2 ⟨rfl, hS2, hb2⟩
  have g2 := Lib.hid ((Gr.refl w2).alloc (.cells #[.int .i64 0, .int .i64 0, .string ⟨#[]⟩, .string ⟨#[]⟩, .string ⟨#[]⟩, .int .i64 0] 32))
  have S2 := Lib.hid (hS2.gr g2.out)
  have K2 := Lib.hid ((g2.out.block _ (Nat.lt_of_lt_of_le (Array.getElem?_eq_some_iff.1 K1.out).1 hb2.size)).trans ((hb2.block _ (Array.getElem?_eq_some_iff.1 K1.out).1 (by simp; omega)).trans K1.out))
  have B2 := Lib.hid ((B1.out.trans hb2).trans (But.of_gr g2.out))
  clear hS2 hb2 g2 S1 K1 B1
  go_wp2_with fail
  refine (HH.out _ S2.out).mono ?_
  rintro e3 w3 ⟨rfl, hS3, hb3⟩
  have g3 := Lib.hid ((Gr.refl w3).alloc (.cells #[.int .i64 0, .int .i64 0, .string ⟨#[]⟩, .string ⟨#[]⟩, .string ⟨#[]⟩, .int .i64 0] 32))
  have S3 := Lib.hid (hS3.gr g3.out)
  have K3 := Lib.hid ((g3.out.block _ (Nat.lt_of_lt_of_le (Array.getElem?_eq_some_iff.1 K2.out).1 hb3.size)).trans ((hb3.block _ (Array.getElem?_eq_some_iff.1 K2.out).1 (by simp; omega)).trans K2.out))
  have B3 := Lib.hid ((B2.out.trans hb3).trans (But.of_gr g3.out))
  clear hS3 hb3 g3 S2 K2 B2
  go_wp2_with fail
  refine (HF.out _ S3.out).mono ?_
  rintro e4 w4 ⟨rfl, hS4, hb4⟩
  have g4 := Lib.hid ((Gr.refl w4).alloc (.cells #[.int .i64 tk.kind, .int .i64 tk.place, .string tk.text, .string tk.repl, .string tk.more, .int .i64 tk.opn] 32))
  have S4 := Lib.hid (hS4.gr g4.out)
  have K4 := Lib.hid ((g4.out.block _ (Nat.lt_of_lt_of_le (Array.getElem?_eq_some_iff.1 K3.out).1 hb4.size)).trans ((hb4.block _ (Array.getElem?_eq_some_iff.1 K3.out).1 (by simp; omega)).trans K3.out))
  have B4 := Lib.hid ((B3.out.trans hb4).trans (But.of_gr g4.out))
  clear hS4 hb4 g4 S3 K3 B3
  go_wp2_with (refine wpList_store_tok rfl (.tmp 2) (.tmp 34) rfl (t := tk) rfl rfl K4.out rfl ?_)
  intro W9 hb9 hk9
  have B9 := Lib.hid hb9
  have K9 := Lib.hid hk9
  clear hb9 hk9
  go_wp2_with fail
  refine bodyPost_ret (results_tok rfl rfl K9.out) rfl ?_
  exact ⟨rfl, S4.out.but B9.out (by omega) (by omega), B4.out.late (Nat.le_refl _) B9.out⟩
set_option maxRecDepth 100000 in
set_option maxHeartbeats 1000000 in
theorem token_quote (h : Sc w P M s at_ en true tv bv ov) (hf : Finds 39 P M s at_ b en true tv bv ov tk true) :
    Calls Tryd.prog 34 #[.pointer (some ⟨P, 0, none⟩)] w fun e w' => e = .returned tk.val ∧ Sc w' P M s b en true tv bv ov ∧ But P w w' := by
  have HF := Lib.hid hf
  unfold Finds at HF
  rw [show tk.val = .agg #[.int .i64 tk.kind, .int .i64 tk.place, .string tk.text, .string tk.repl, .string tk.more, .int .i64 tk.opn] from rfl] at HF
  clear hf
  have H := Lib.hid h
  have hP : P < w.heap.size := h.lt.1
  have hM : M < w.heap.size := h.lt.2
  obtain ⟨c0, c1, c2, c3, c4, c5, c6, c7, cf⟩ := (h.gr ((Gr.refl w).alloc (.cells #[.int .i64 0, .int .i64 0, .string ⟨#[]⟩, .string ⟨#[]⟩, .string ⟨#[]⟩, .int .i64 0] 32))).cells
  have S1 := Lib.hid (h.gr ((Gr.refl w).alloc (.cells #[.int .i64 0, .int .i64 0, .string ⟨#[]⟩, .string ⟨#[]⟩, .string ⟨#[]⟩, .int .i64 0] 32)))
  have K1 : Hid ((w.alloc (.cells #[.int .i64 0, .int .i64 0, .string ⟨#[]⟩, .string ⟨#[]⟩, .string ⟨#[]⟩, .int .i64 0] 32)).heap[w.heap.size]? = some (.cells #[.int .i64 0, .int .i64 0, .string ⟨#[]⟩, .string ⟨#[]⟩, .string ⟨#[]⟩, .int .i64 0] 32 (0, 0))) := Lib.hid (heap_alloc_new w _)
  have B1 := Lib.hid (But.of_gr (P := P) ((Gr.refl w).alloc (.cells #[.int .i64 0, .int .i64 0, .string ⟨#[]⟩, .string ⟨#[]⟩, .string ⟨#[]⟩, .int .i64 0] 32)))
  clear h
  go_enter Tryd.func34, Tryd.ntmps34
  go_wp2_with fail
  clear c0 c1 c2 c3 c4 c5 c6 c7 cf
  refine (HF.out _ S1.out).mono ?_
  rintro e2 w2 ⟨rfl, hS2, hb2⟩
  have g2 := Lib.hid ((Gr.refl w2).alloc (.cells #[.int .i64 tk.kind, .int .i64 tk.place, .string tk.text, .string tk.repl, .string tk.more, .int .i64 tk.opn] 32))
  have S2 := Lib.hid (hS2.gr g2.out)
  have K2 := Lib.hid ((g2.out.block _ (Nat.lt_of_lt_of_le (Array.getElem?_eq_some_iff.1 K1.out).1 hb2.size)).trans ((hb2.block _ (Array.getElem?_eq_some_iff.1 K1.out).1 (by simp; omega)).trans K1.out))
  have B2 := Lib.hid ((B1.out.trans hb2).trans (But.of_gr g2.out))
  clear hS2 hb2 g2 S1 K1 B1
  go_wp2_with (refine wpList_store_tok rfl (.tmp 2) (.tmp 20) rfl (t := tk) rfl rfl K2.out rfl ?_)
  intro W9 hb9 hk9
  have B9 := Lib.hid hb9
  have K9 := Lib.hid hk9
  clear hb9 hk9
  go_wp2_with fail
  refine bodyPost_ret (results_tok rfl rfl K9.out) rfl ?_
  exact ⟨rfl, S2.out.but B9.out (by omega) (by omega), B2.out.late (Nat.le_refl _) B9.out⟩
end Go.Proofs.YthmopindibdhnaaDoor
namespace Go.Proofs.YthmopindibdhnaaDoor
open Go.RowKit Go.Shelf
def takesL : List (List UInt8) := [[114, 101, 116, 117, 114, 110], [97, 110, 100], [111, 114], [110, 111, 116], [120], [108, 116], [103, 116], [108, 101], [103, 101], [101, 113], [110, 101], [99, 109, 112], [105, 102], [117, 110, 108, 101, 115, 115], [101, 108, 115, 105, 102], [101, 108, 115, 101], [119, 104, 105, 108, 101], [117, 110, 116, 105, 108], [102, 111, 114], [100, 111], [101, 118, 97, 108], [115, 117, 98], [109, 97, 112], [103, 114, 101, 112], [115, 111, 114, 116], [109, 121], [111, 117, 114], [108, 111, 99, 97, 108]]
def takesB (l : List UInt8) : Bool := takesL.contains l
set_option maxRecDepth 100000 in
set_option maxHeartbeats 2000000 in
theorem takes_p (s : ByteArray) (w : World) : Calls Tryd.prog 29 #[.string s] w fun e w' => e = .returned (.bool (takesB s.data.toList)) ∧ w = w' := by
  obtain ⟨R, hR⟩ : ∃ R, R = takesB s.data.toList := ⟨_, rfl⟩
  have HR : Hid (R = (s.toList == [114, 101, 116, 117, 114, 110] || s.toList == [97, 110, 100] || s.toList == [111, 114] || s.toList == [110, 111, 116] || s.toList == [120] || s.toList == [108, 116] || s.toList == [103, 116] || s.toList == [108, 101] || s.toList == [103, 101] || s.toList == [101, 113] || s.toList == [110, 101] || s.toList == [99, 109, 112] || s.toList == [105, 102] || s.toList == [117, 110, 108, 101, 115, 115] || s.toList == [101, 108, 115, 105, 102] || s.toList == [101, 108, 115, 101] || s.toList == [119, 104, 105, 108, 101] || s.toList == [117, 110, 116, 105, 108] || s.toList == [102, 111, 114] || s.toList == [100, 111] || s.toList == [101, 118, 97, 108] || s.toList == [115, 117, 98] || s.toList == [109, 97, 112] || s.toList == [103, 114, 101, 112] || s.toList == [115, 111, 114, 116] || s.toList == [109, 121] || s.toList == [111, 117, 114] || s.toList == [108, 111, 99, 97, 108])) := Lib.hid (by
    rw [hR, ByteArray.toList_eq]
    simp only [takesB, takesL, List.contains_cons, List.contains_nil, Bool.or_false, Bool.or_assoc])
  rw [← hR]
  clear hR
  go_enter Tryd.func29, Tryd.ntmps29
  go_wp2
  all_goals
    go_ret
    refine ⟨?_, rfl⟩
    rw [HR.out]
    first
      | (simp [*]; done)
      | simp_all
def behindSignB (l : List UInt8) (opn : Int) (before : Bool) : Bool :=
  if l == [41] || l == [93] then false else if l == [125] then (opn != 2 && opn != 3) else if l == [43, 43] || l == [45, 45] then before else true
set_option maxRecDepth 100000 in
set_option maxHeartbeats 2000000 in
theorem behindSign_p (k p : Int) (s r m : ByteArray) (o : Int) (b : Bool) (w : World) : Calls Tryd.prog 30 #[.agg #[.int .i64 k, .int .i64 p, .string s, .string r, .string m, .int .i64 o], .bool b] w fun e w' => e = .returned (.bool (behindSignB s.data.toList o b)) ∧ Gr w w' := by
  obtain ⟨R, hR⟩ : ∃ R, R = behindSignB s.data.toList o b := ⟨_, rfl⟩
  have HR : Hid (R = if (s.toList == [41] || s.toList == [93]) = true then false else if (s.toList == [125]) = true then (o != 2 && o != 3) else if (s.toList == [43, 43] || s.toList == [45, 45]) = true then b else true) := Lib.hid (by rw [hR, ByteArray.toList_eq]; rfl)
  rw [← hR]
  clear hR
  by_cases h2 : o = 2
  · have t2 : (o == 2) = true := by simpa using h2
    clear h2
    go_enter Tryd.func30, Tryd.ntmps30
    go_wp2
    all_goals
      go_ret
      refine ⟨?_, (Gr.refl w).alloc _⟩
      rw [HR.out]
      first
        | (simp [*]; done)
        | simp_all
  · have t2 : (o == 2) = false := by simpa using h2
    clear h2
    go_enter Tryd.func30, Tryd.ntmps30
    go_wp2
    all_goals
      go_ret
      refine ⟨?_, (Gr.refl w).alloc _⟩
      rw [HR.out]
      first
        | (simp [*]; done)
        | simp_all
def behindB (k : Int) (l : List UInt8) (o : Int) (b : Bool) : Bool := if k = 0 then takesB l else if k = 3 then behindSignB l o b else !(decide (1 ≤ k) && decide (k ≤ 9))
set_option maxRecDepth 100000 in
set_option maxHeartbeats 1000000 in
theorem behind_p (k p : Int) (s r m : ByteArray) (o : Int) (b : Bool) (w : World) : Calls Tryd.prog 18 #[.agg #[.int .i64 k, .int .i64 p, .string s, .string r, .string m, .int .i64 o], .bool b] w fun e w' => e = .returned (.bool (behindB k s.data.toList o b)) ∧ Gr w w' := by
  have HT := Lib.hid (fun w => takes_p s w)
  have HS := Lib.hid (fun w => behindSign_p k p s r m o b w)
  have G := Lib.hid ((Gr.refl w).alloc (.cells #[.int .i64 k, .int .i64 p, .string s, .string r, .string m, .int .i64 o] 32))
  by_cases h0 : k = 0
  · have e0 : behindB k s.data.toList o b = takesB s.data.toList := if_pos h0
    have t0 : (k == 0) = true := by simpa using h0
    rw [e0]; clear e0 h0 HS
    go_enter Tryd.func18, Tryd.ntmps18
    go_wp2_with fail
    refine (HT.out _).mono ?_
    rintro e w2 ⟨rfl, rfl⟩
    go_wp2
    go_ret
    exact ⟨rfl, G.out⟩
  · have t0 : (k == 0) = false := by simpa using h0
    by_cases h3 : k = 3
    · have e0 : behindB k s.data.toList o b = behindSignB s.data.toList o b := by unfold behindB; rw [if_neg h0, if_pos h3]
      have t3 : (k == 3) = true := by simpa using h3
      rw [e0]; clear e0 h0 h3 HT
      go_enter Tryd.func18, Tryd.ntmps18
      go_wp2_with fail
      refine (HS.out _).mono ?_
      rintro e w2 ⟨rfl, g2⟩
      go_wp2
      go_ret
      exact ⟨rfl, Gr.trans G.out g2⟩
    · have e0 : behindB k s.data.toList o b = !(decide (1 ≤ k) && decide (k ≤ 9)) := by unfold behindB; rw [if_neg h0, if_neg h3]
      have t3 : (k == 3) = false := by simpa using h3
      by_cases hin : k = 1 ∨ k = 2 ∨ k = 4 ∨ k = 5 ∨ k = 6 ∨ k = 7 ∨ k = 8 ∨ k = 9
      · rw [e0]; clear e0 h0 h3 HT HS t0 t3
        rcases hin with rfl | rfl | rfl | rfl | rfl | rfl | rfl | rfl
        all_goals
          rw [show (!(decide ((1 : Int) ≤ _) && decide (_ ≤ (9 : Int)))) = false from by decide]
          go_enter Tryd.func18, Tryd.ntmps18
          go_wp2
          go_ret
          exact ⟨rfl, G.out⟩
      · have e1 : (!(decide (1 ≤ k) && decide (k ≤ 9))) = true := by simp; omega
        have u1 : (k == 1) = false := by simp; omega
        have u2 : (k == 2) = false := by simp; omega
        have u4 : (k == 4) = false := by simp; omega
        have u5 : (k == 5) = false := by simp; omega
        have u6 : (k == 6) = false := by simp; omega
        have u7 : (k == 7) = false := by simp; omega
        have u8 : (k == 8) = false := by simp; omega
        have u9 : (k == 9) = false := by simp; omega
        rw [e0, e1]; clear e0 e1 h0 h3 hin HT HS
        go_enter Tryd.func18, Tryd.ntmps18
        go_wp2
        go_ret
        exact ⟨rfl, G.out⟩
set_option maxRecDepth 100000 in
theorem brace_no {P : Nat} (s : ByteArray) (d : Bool) (h1 : s.data.toList ≠ [123]) (h2 : s.data.toList ≠ [125]) (w : World) : Calls Tryd.prog 35 #[.pointer (some ⟨P, 0, none⟩), .string s, .bool d] w fun e w' => e = .returned (.int .i64 0) ∧ w = w' := by
  have t1 : (s.toList == [123]) = false := by rw [ByteArray.toList_eq]; simpa using h1
  have t2 : (s.toList == [125]) = false := by rw [ByteArray.toList_eq]; simpa using h2
  clear h1 h2
  go_enter Tryd.func35, Tryd.ntmps35
  go_wp2
  go_ret
  exact ⟨rfl, rfl⟩
end Go.Proofs.YthmopindibdhnaaDoor
namespace Go.Proofs.YthmopindibdhnaaDoor.G
open Go.RowKit Go.Shelf
abbrev Src := List (Nat × UInt8)
def byt (R : Src) : List UInt8 := R.map Prod.snd
@[simp] theorem byt_nil : byt [] = [] := rfl
@[simp] theorem byt_cons (x : Nat × UInt8) (t : Src) : byt (x :: t) = x.2 :: byt t := rfl
@[simp] theorem byt_app (a b : Src) : byt (a ++ b) = byt a ++ byt b := by simp [byt]
@[simp] theorem byt_len (R : Src) : (byt R).length = R.length := by simp [byt]
theorem byt_drop (R : Src) (n : Nat) : byt (R.drop n) = (byt R).drop n := by simp [byt, List.map_drop]
theorem byt_take (R : Src) (n : Nat) : byt (R.take n) = (byt R).take n := by simp [byt, List.map_take]
def place : Src → Nat
  | [] => 0
  | x :: _ => x.1
/-- blanks and comments are skipped; true: within a comment -/
def skipS : Bool → Src → Src
  | _, [] => []
  | true, x :: t => if x.2 = 10 then skipS false t else skipS true t
  | false, x :: t => if blkB x.2.toNat = true then skipS false t else if x.2 = 35 then skipS true t else x :: t
/-- a token as it was read: its kind, its place, how its text comes of what was read (0 as it is, 1 without interpolation, 2 with it, 3 words, 4 a pattern, 5 a replacement, 6 a transliteration, 7 the lines of a heredoc with interpolation), its parts, flags, delimiters, and what a brace is -/
structure RTok where
  kind : Nat
  place : Nat
  form : Nat
  raw : List UInt8
  raw2 : List UInt8
  more : List UInt8
  o : UInt8
  o2 : UInt8
  opn : Nat
def partU (o : UInt8) : UInt8 := (partI o.toNat).toNat.toUInt8
/-- what stands in a quote, d pairs deep, and what is behind it -/
def partS (o e : UInt8) : Nat → Src → Option (List UInt8 × Src)
  | _, [] => none
  | d, [x] => if x.2 = e ∧ d = 0 then some ([], []) else none
  | d, x :: y :: t =>
    if x.2 = 92 then (partS o e d t).map fun r => (x.2 :: y.2 :: r.1, r.2)
    else if x.2 = e then (if d = 0 then some ([], y :: t) else (partS o e (d - 1) (y :: t)).map fun r => (x.2 :: r.1, r.2))
    else if x.2 = o then (partS o e (d + 1) (y :: t)).map fun r => (x.2 :: r.1, r.2)
    else (partS o e d (y :: t)).map fun r => (x.2 :: r.1, r.2)
def blkS : Src → Src
  | [] => []
  | x :: t => if blkB x.2.toNat = true then blkS t else x :: t
def secondT : Src → Option (UInt8 × List UInt8 × Src)
  | [] => none
  | x :: t => if delimB x.2.toNat = true then (partS x.2 (partU x.2) 0 t).map fun r => (x.2, r.1, r.2) else none
def secondS (o : UInt8) (R : Src) : Option (UInt8 × List UInt8 × Src) :=
  if partU o = o then (partS o o 0 R).map fun r => (o, r.1, r.2) else secondT (blkS R)
def flagsP : List UInt8 := [105, 109, 115, 120, 103]
def flagsT : List UInt8 := [99, 100, 114]
def flagS (R : Src) (all : List UInt8) : Nat := flagN (byt R) 0 all 0
/-- a quote of a kind from its delimiter on -/
def quoteS (pl : Nat) (k : Int) : Src → Option (RTok × Src)
  | [] => none
  | x :: R => match partS x.2 (partU x.2) 0 R with
    | none => none
    | some (raw, R1) =>
      if k = 4 then some (⟨4, pl, 1, raw, [], [], x.2, 0, 0⟩, R1)
      else if k = 5 then some (⟨5, pl, 2, raw, [], [], x.2, 0, 0⟩, R1)
      else if k = 6 then some (⟨6, pl, 3, raw, [], [], x.2, 0, 0⟩, R1)
      else if k = 7 then some (⟨7, pl, 4, raw, [], (byt R1).take (flagS R1 flagsP), x.2, 0, 0⟩, R1.drop (flagS R1 flagsP))
      else match secondS x.2 R1 with
        | none => none
        | some (o2, raw2, R2) =>
          if k = 8 then some (⟨8, pl, 5, raw, raw2, (byt R2).take (flagS R2 flagsP), x.2, o2, 0⟩, R2.drop (flagS R2 flagsP))
          else some (⟨9, pl, 6, raw, raw2, (byt R2).take (flagS R2 flagsT), x.2, o2, 0⟩, R2.drop (flagS R2 flagsT))
/-- the sign of a heredoc behind its `<<`: how many bytes it has, its name, and whether its lines are with interpolation -/
def hereL (B : List UInt8) : Option (Nat × List UInt8 × Bool) :=
  if 0 < wordN B then (if wordN B ≤ 12 then some (wordN B, B.take (wordN B), true) else none)
  else match B[0]? with
    | none => none
    | some q => if (q = 39 ∨ q = 34) ∧ 0 < wordN (B.drop 1) ∧ wordN (B.drop 1) ≤ 12 ∧ (B.drop 1)[wordN (B.drop 1)]? = some q then some (2 + wordN (B.drop 1), (B.drop 1).take (wordN (B.drop 1)), q == 34) else none
def hereS (B : List UInt8) : Option (Nat × List UInt8 × Bool) :=
  if B[0]? = some 60 ∧ B[1]? = some 60 then (hereL (B.drop 2)).map fun r => (2 + r.1, r.2) else none
def notNl (x : Nat × UInt8) : Bool := x.2 != 10
/-- the lines up to the one that is a name, and what is behind it -/
def linesS (name : List UInt8) : Nat → Src → Option (List UInt8 × Src)
  | 0, _ => none
  | f + 1, R => if R = [] then none
    else if byt (R.takeWhile notNl) = name then some ([], (R.dropWhile notNl).drop 1)
    else (linesS name f ((R.dropWhile notNl).drop 1)).map fun r => (byt (R.takeWhile notNl) ++ byt ((R.dropWhile notNl).take 1) ++ r.1, r.2)
/-- the lines of a heredoc are cut out of what is left -/
def cutS (name : List UInt8) (R : Src) : Option (List UInt8 × Src) :=
  match R.dropWhile notNl with
  | [] => none
  | x :: t => (linesS name (t.length + 1) t).map fun r => (r.1, R.takeWhile notNl ++ x :: r.2)
/-- how many bytes a variable has (none: it is wrong; some 0: there is none); ref: a word that is too long behind a sigil is wrong even if it begins with `_` -/
def varS (ref : Bool) (B : List UInt8) : Option Nat :=
  match B with
  | c :: d :: t =>
    if sigilB c.toNat = true then
      (if 12 < wordN (d :: t) then (if ref = true ∨ d ≠ 95 then none else some 0)
       else if 0 < wordN (d :: t) then some (1 + wordN (d :: t))
       else if c = 36 ∧ specB d.toNat = true then some 2 else some 0)
    else some 0
  | _ => some 0
/-- how many bytes a sign has; 0: there is none -/
def signS (B : List UInt8) (term : Bool) : Nat :=
  if 0 < signN B then signN B
  else if term = true ∧ (B[0]? = some 36 ∨ B[0]? = some 64) ∧ (B[1]? = some 36 ∨ B[1]? = some 123) then 1 else 0
def asIs (k n : Nat) (R : Src) : RTok × Src := (⟨k, place R, 0, (byt R).take n, [], [], 0, 0, 0⟩, R.drop n)
def digN (B : List UInt8) : Nat := digR B B.length 1
def plainS (R : Src) (term : Bool) : Option (RTok × Src) :=
  match R with
  | [] => none
  | x :: _ =>
    if alphaB x.2.toNat = true then (if wordN (byt R) ≤ 12 then some (asIs 0 (wordN (byt R)) R) else none)
    else if digB x.2.toNat = true then some (asIs 1 (digN (byt R)) R)
    else if 0 < signS (byt R) term then some (asIs 3 (signS (byt R) term) R) else none
/-- a token, and what is behind it -/
def nextS (ref : Bool) (R : Src) (term : Bool) : Option (RTok × Src) :=
  if term = true then
    match quoteL (byt R) with
    | some (k, n) => quoteS (place R) k (R.drop n)
    | none => match hereS (byt R) with
      | some (n, name, more) => (cutS name (R.drop n)).map fun r => (⟨if more = true then 5 else 4, place R, if more = true then 7 else 0, r.1, [], [], 0, 0, 0⟩, r.2)
      | none => match varS ref (byt R) with
        | none => none
        | some 0 => plainS R term
        | some (n + 1) => some (asIs 2 (n + 1) R)
  else plainS R term
def isSg (x : RTok) (l : List UInt8) : Bool := x.kind == 3 && x.raw == l
/-- the sign behind which a statement may begin -/
def endsS (x : RTok) : Bool := isSg x [59] || ((isSg x [123] || isSg x [125]) && x.opn == 1)
def begS : List RTok → Bool
  | [] => true
  | x :: _ => endsS x
/-- what a `{` is, behind tokens (the last one first), of which the last one stood where a term was expected or not -/
def openS (rt : List RTok) (tms : List Bool) (near : Bool) : Nat :=
  match rt with
  | [] => 1
  | x :: xs =>
    if (tms.headD false && (isSg x [36] || isSg x [64] || isSg x [37] || isSg x [38])) || isSg x [45, 62] then 2
    else if near && (x.kind == 2 || isSg x [93] || (isSg x [125] && x.opn == 2)) then 2
    else if x.kind == 0 || isSg x [41] || endsS x then 1
    else match xs with
      | [] => 3
      | y :: ys => if isSg x [58] && y.kind == 0 && begS ys then 1 else 3
/-- a token that was read, with what it is if it is a brace, and the braces that are open then -/
def braceS (t : RTok) (rt : List RTok) (tms : List Bool) (near : Bool) (ops : List Nat) : RTok × List Nat :=
  if isSg t [123] = true then ({ t with opn := openS rt tms near }, openS rt tms near :: ops)
  else if isSg t [125] = true then ({ t with opn := ops.headD 1 }, ops.tail)
  else (t, ops)
/-- all tokens, the last one first, and before which of them a term was expected -/
def scanS (ref : Bool) : Nat → Src → Bool → List RTok → List Bool → List Nat → Option (List RTok × List Bool)
  | 0, _, _, _, _, _ => none
  | f + 1, R, term, rt, tms, ops =>
    if skipS false R = [] then some (rt, tms)
    else match nextS ref (skipS false R) term with
      | none => none
      | some (t, R2) => scanS ref f R2 (behindB (braceS t rt tms (decide ((skipS false R).length = R.length)) ops).1.kind t.raw (braceS t rt tms (decide ((skipS false R).length = R.length)) ops).1.opn term)
          ((braceS t rt tms (decide ((skipS false R).length = R.length)) ops).1 :: rt) (term :: tms) (braceS t rt tms (decide ((skipS false R).length = R.length)) ops).2
end Go.Proofs.YthmopindibdhnaaDoor.G
namespace Go.Proofs.YthmopindibdhnaaDoor
open Go.RowKit Go.Shelf
variable {l : List UInt8} {f n : Nat}
theorem sep_eq (h : n + 2 < l.length) : sepAt l n = (l[n] == 58 && l[n + 1] == 58 && alphaB l[n + 2].toNat) := by
  unfold sepAt
  rw [List.getElem?_eq_getElem h, List.drop_eq_getElem_cons (by omega : n < l.length), List.drop_eq_getElem_cons (by omega : n + 1 < l.length)]
  simp only [Lib.hasPrefix, List.isPrefixOf, Bool.and_true]
  rw [BEq.comm (a := (58 : UInt8)), BEq.comm (a := (58 : UInt8))]
theorem sep_short (h : ¬ n + 2 < l.length) : sepAt l n = false := by
  cases hs : sepAt l n with
  | false => rfl
  | true => exact absurd (sep_len hs) h
end Go.Proofs.YthmopindibdhnaaDoor
