/- The scanner's token. -/
import Derived.Test.YtaoehbnjipegoaaDoorLQuo
namespace Go.Proofs.YtaoehbnjipegoaaDoor
open Go.RowKit Go.Shelf
/-- the function K reads the token tk, and comes to place b -/
def Reads (K : Nat) (P M : Nat) (s : ByteArray) (a b en : Nat) (tm : Bool) (tv bv ov : Value) (tk : Tok) : Prop :=
  ∀ W, Sc W P M s a en tm tv bv ov → Calls Tryd.prog K #[.pointer (some ⟨P, 0, none⟩)] W fun e w' => e = .returned tk.val ∧ Sc w' P M s b en tm tv bv ov ∧ But P W w'
/-- the function K finds the token tk, and comes to place b -/
def Finds (K : Nat) (P M : Nat) (s : ByteArray) (a b en : Nat) (tm : Bool) (tv bv ov : Value) (tk : Tok) (is : Bool) : Prop :=
  ∀ W, Sc W P M s a en tm tv bv ov → Calls Tryd.prog K #[.pointer (some ⟨P, 0, none⟩)] W fun e w' => e = .returned (.tuple #[tk.val, .bool is]) ∧ Sc w' P M s b en tm tv bv ov ∧ But P W w'
theorem tok0_val : tok0.val = .agg #[.int .i64 0, .int .i64 0, .string ⟨#[]⟩, .string ⟨#[]⟩, .string ⟨#[]⟩, .int .i64 0] := rfl
variable {w : World} {P M : Nat} {s : ByteArray} {at_ en b : Nat} {tm : Bool} {tv bv ov : Value} {tk : Tok} {x : UInt8}
set_option maxRecDepth 100000 in
set_option maxHeartbeats 1000000 in
theorem token_word_t (h : Sc w P M s at_ en true tv bv ov) (hx : s.data.toList[at_]? = some x) (ha : alphaB x.toNat = true) (hq : Finds 58 P M s at_ at_ en true tv bv ov tok0 false) (hh : Finds 59 P M s at_ at_ en true tv bv ov tok0 false) (hv : Finds 60 P M s at_ at_ en true tv bv ov tok0 false) (hr : Reads 61 P M s at_ b en true tv bv ov tk) :
    Calls Tryd.prog 54 #[.pointer (some ⟨P, 0, none⟩)] w fun e w' => e = .returned tk.val ∧ Sc w' P M s b en true tv bv ov ∧ But P w w' := by
  have hL : at_ < s.data.toList.length := (List.getElem?_eq_some_iff.1 hx).1
  have hat : at_ < s.size := by rw [sizeL] at hL; exact hL
  have ex : s[at_] = x := by rw [byteE s at_ hat hL]; exact (List.getElem?_eq_some_iff.1 hx).2
  have hat' : (at_ : Int) < (s.size : Int) := by omega
  have HA := Lib.hid (fun w => alpha_p x.toNat w)
  have HD := Lib.hid (fun w => dig_p x.toNat w)
  rw [ha] at HA
  have HR := Lib.hid hr
  unfold Reads at HR
  clear hr hx ha HD
  have HQ := Lib.hid hq
  unfold Finds at HQ
  rw [tok0_val] at HQ
  have HH := Lib.hid hh
  unfold Finds at HH
  rw [tok0_val] at HH
  clear hq hh
  have HV := Lib.hid hv
  unfold Finds at HV
  rw [tok0_val] at HV
  clear hv
  have H := Lib.hid h
  have hP : P < w.heap.size := h.lt.1
  have hM : M < w.heap.size := h.lt.2
  obtain ⟨c0, c1, c2, c3, c4, c5, c6, c7, cf⟩ := (h.gr ((Gr.refl w).alloc (.cells #[.int .i64 0, .int .i64 0, .string ⟨#[]⟩, .string ⟨#[]⟩, .string ⟨#[]⟩, .int .i64 0] 32))).cells
  have S1 := Lib.hid (h.gr ((Gr.refl w).alloc (.cells #[.int .i64 0, .int .i64 0, .string ⟨#[]⟩, .string ⟨#[]⟩, .string ⟨#[]⟩, .int .i64 0] 32)))
  have K1 : Hid ((w.alloc (.cells #[.int .i64 0, .int .i64 0, .string ⟨#[]⟩, .string ⟨#[]⟩, .string ⟨#[]⟩, .int .i64 0] 32)).heap[w.heap.size]? = some (.cells #[.int .i64 0, .int .i64 0, .string ⟨#[]⟩, .string ⟨#[]⟩, .string ⟨#[]⟩, .int .i64 0] 32 (0, 0))) := Lib.hid (heap_alloc_new w _)
  have B1 := Lib.hid (But.of_gr (P := P) ((Gr.refl w).alloc (.cells #[.int .i64 0, .int .i64 0, .string ⟨#[]⟩, .string ⟨#[]⟩, .string ⟨#[]⟩, .int .i64 0] 32)))
  clear h
  go_enter Tryd.func54, Tryd.ntmps54
  go_wp2_with fail
  clear c0 c1 c2 c3 c4 c5 c6 c7 cf
  refine (HQ.out _ S1.out).mono ?_
  rintro e2 w2 ⟨rfl, hS2, hb2⟩
  have g2 := Lib.hid ((Gr.refl w2).alloc (.cells #[.int .i64 0, .int .i64 0, .string ⟨#[]⟩, .string ⟨#[]⟩, .string ⟨#[]⟩, .int .i64 0] 32))
  have S2 := Lib.hid (hS2.gr g2.out)
  have K2 := Lib.hid ((g2.out.block _ (Nat.lt_of_lt_of_le (Array.getElem?_eq_some_iff.1 K1.out).1 hb2.size)).trans ((hb2.block _ (Array.getElem?_eq_some_iff.1 K1.out).1 (by simp; omega)).trans K1.out))
  have B2 := Lib.hid ((B1.out.trans hb2).trans (But.of_gr g2.out))
  clear hS2 hb2 g2 S1 K1 B1
  go_wp2_with fail
  refine (HH.out _ S2.out).mono ?_
  rintro e3 w3 ⟨rfl, hS3, hb3⟩
  have g3 := Lib.hid ((Gr.refl w3).alloc (.cells #[.int .i64 0, .int .i64 0, .string ⟨#[]⟩, .string ⟨#[]⟩, .string ⟨#[]⟩, .int .i64 0] 32))
  have S3 := Lib.hid (hS3.gr g3.out)
  have K3 := Lib.hid ((g3.out.block _ (Nat.lt_of_lt_of_le (Array.getElem?_eq_some_iff.1 K2.out).1 hb3.size)).trans ((hb3.block _ (Array.getElem?_eq_some_iff.1 K2.out).1 (by simp; omega)).trans K2.out))
  have B3 := Lib.hid ((B2.out.trans hb3).trans (But.of_gr g3.out))
  clear hS3 hb3 g3 S2 K2 B2
  go_wp2_with fail
  refine (HV.out _ S3.out).mono ?_
  rintro e4 w4 ⟨rfl, hS4, hb4⟩
  have g4 := Lib.hid ((Gr.refl w4).alloc (.cells #[.int .i64 0, .int .i64 0, .string ⟨#[]⟩, .string ⟨#[]⟩, .string ⟨#[]⟩, .int .i64 0] 32))
  have S4 := Lib.hid (hS4.gr g4.out)
  have K4 := Lib.hid ((g4.out.block _ (Nat.lt_of_lt_of_le (Array.getElem?_eq_some_iff.1 K3.out).1 hb4.size)).trans ((hb4.block _ (Array.getElem?_eq_some_iff.1 K3.out).1 (by simp; omega)).trans K3.out))
  have B4 := Lib.hid ((B3.out.trans hb4).trans (But.of_gr g4.out))
  clear hS4 hb4 g4 S3 K3 B3
  obtain ⟨c0, c1, c2, c3, c4, c5, c6, c7, cf⟩ := S4.out.cells
  go_wp2_with fail
  go_quiet (fail)
  clear c0 c1 c2 c3 c4 c5 c6 c7 cf
  go_wp2_with fail
  refine (HA.out _).mono ?_
  rintro e w5 ⟨rfl, rfl⟩
  go_wp2_with fail
  refine (HR.out _ (S4.out.gr ((Gr.refl _).drewN _))).mono ?_
  rintro e w6 ⟨rfl, hS6, hb6⟩
  have S6 := Lib.hid hS6
  have K6 := Lib.hid ((hb6.block _ (Array.getElem?_eq_some_iff.1 K4.out).1 (by simp; omega)).trans K4.out)
  have B6 := Lib.hid ((B4.out.trans (But.of_gr ((Gr.refl _).drewN _))).trans hb6)
  clear hS6 hb6 S4 K4 B4 HR
  go_wp2_with (refine wpList_store_tok rfl (.tmp 2) (.tmp 48) rfl (t := tk) rfl rfl K6.out rfl ?_)
  intro W9 hb9 hk9
  have B9 := Lib.hid hb9
  have K9 := Lib.hid hk9
  clear hb9 hk9
  go_wp2_with fail
  refine bodyPost_ret (results_tok rfl rfl K9.out) rfl ?_
  exact ⟨rfl, S6.out.but B9.out (by omega) (by omega), B6.out.late (Nat.le_refl _) B9.out⟩
set_option maxRecDepth 100000 in
set_option maxHeartbeats 1000000 in
theorem token_number_t (h : Sc w P M s at_ en true tv bv ov) (hx : s.data.toList[at_]? = some x) (ha : alphaB x.toNat = false) (hd : digB x.toNat = true) (hq : Finds 58 P M s at_ at_ en true tv bv ov tok0 false) (hh : Finds 59 P M s at_ at_ en true tv bv ov tok0 false) (hv : Finds 60 P M s at_ at_ en true tv bv ov tok0 false) (hr : Reads 62 P M s at_ b en true tv bv ov tk) :
    Calls Tryd.prog 54 #[.pointer (some ⟨P, 0, none⟩)] w fun e w' => e = .returned tk.val ∧ Sc w' P M s b en true tv bv ov ∧ But P w w' := by
  have hL : at_ < s.data.toList.length := (List.getElem?_eq_some_iff.1 hx).1
  have hat : at_ < s.size := by rw [sizeL] at hL; exact hL
  have ex : s[at_] = x := by rw [byteE s at_ hat hL]; exact (List.getElem?_eq_some_iff.1 hx).2
  have hat' : (at_ : Int) < (s.size : Int) := by omega
  have HA := Lib.hid (fun w => alpha_p x.toNat w)
  have HD := Lib.hid (fun w => dig_p x.toNat w)
  rw [ha] at HA
  rw [hd] at HD
  have HR := Lib.hid hr
  unfold Reads at HR
  clear hr hx ha hd
  have HQ := Lib.hid hq
  unfold Finds at HQ
  rw [tok0_val] at HQ
  have HH := Lib.hid hh
  unfold Finds at HH
  rw [tok0_val] at HH
  clear hq hh
  have HV := Lib.hid hv
  unfold Finds at HV
  rw [tok0_val] at HV
  clear hv
  have H := Lib.hid h
  have hP : P < w.heap.size := h.lt.1
  have hM : M < w.heap.size := h.lt.2
  obtain ⟨c0, c1, c2, c3, c4, c5, c6, c7, cf⟩ := (h.gr ((Gr.refl w).alloc (.cells #[.int .i64 0, .int .i64 0, .string ⟨#[]⟩, .string ⟨#[]⟩, .string ⟨#[]⟩, .int .i64 0] 32))).cells
  have S1 := Lib.hid (h.gr ((Gr.refl w).alloc (.cells #[.int .i64 0, .int .i64 0, .string ⟨#[]⟩, .string ⟨#[]⟩, .string ⟨#[]⟩, .int .i64 0] 32)))
  have K1 : Hid ((w.alloc (.cells #[.int .i64 0, .int .i64 0, .string ⟨#[]⟩, .string ⟨#[]⟩, .string ⟨#[]⟩, .int .i64 0] 32)).heap[w.heap.size]? = some (.cells #[.int .i64 0, .int .i64 0, .string ⟨#[]⟩, .string ⟨#[]⟩, .string ⟨#[]⟩, .int .i64 0] 32 (0, 0))) := Lib.hid (heap_alloc_new w _)
  have B1 := Lib.hid (But.of_gr (P := P) ((Gr.refl w).alloc (.cells #[.int .i64 0, .int .i64 0, .string ⟨#[]⟩, .string ⟨#[]⟩, .string ⟨#[]⟩, .int .i64 0] 32)))
  clear h
  go_enter Tryd.func54, Tryd.ntmps54
  go_wp2_with fail
  clear c0 c1 c2 c3 c4 c5 c6 c7 cf
  refine (HQ.out _ S1.out).mono ?_
  rintro e2 w2 ⟨rfl, hS2, hb2⟩
  have g2 := Lib.hid ((Gr.refl w2).alloc (.cells #[.int .i64 0, .int .i64 0, .string ⟨#[]⟩, .string ⟨#[]⟩, .string ⟨#[]⟩, .int .i64 0] 32))
  have S2 := Lib.hid (hS2.gr g2.out)
  have K2 := Lib.hid ((g2.out.block _ (Nat.lt_of_lt_of_le (Array.getElem?_eq_some_iff.1 K1.out).1 hb2.size)).trans ((hb2.block _ (Array.getElem?_eq_some_iff.1 K1.out).1 (by simp; omega)).trans K1.out))
  have B2 := Lib.hid ((B1.out.trans hb2).trans (But.of_gr g2.out))
  clear hS2 hb2 g2 S1 K1 B1
  go_wp2_with fail
  refine (HH.out _ S2.out).mono ?_
  rintro e3 w3 ⟨rfl, hS3, hb3⟩
  have g3 := Lib.hid ((Gr.refl w3).alloc (.cells #[.int .i64 0, .int .i64 0, .string ⟨#[]⟩, .string ⟨#[]⟩, .string ⟨#[]⟩, .int .i64 0] 32))
  have S3 := Lib.hid (hS3.gr g3.out)
  have K3 := Lib.hid ((g3.out.block _ (Nat.lt_of_lt_of_le (Array.getElem?_eq_some_iff.1 K2.out).1 hb3.size)).trans ((hb3.block _ (Array.getElem?_eq_some_iff.1 K2.out).1 (by simp; omega)).trans K2.out))
  have B3 := Lib.hid ((B2.out.trans hb3).trans (But.of_gr g3.out))
  clear hS3 hb3 g3 S2 K2 B2
  go_wp2_with fail
  refine (HV.out _ S3.out).mono ?_
  rintro e4 w4 ⟨rfl, hS4, hb4⟩
  have g4 := Lib.hid ((Gr.refl w4).alloc (.cells #[.int .i64 0, .int .i64 0, .string ⟨#[]⟩, .string ⟨#[]⟩, .string ⟨#[]⟩, .int .i64 0] 32))
  have S4 := Lib.hid (hS4.gr g4.out)
  have K4 := Lib.hid ((g4.out.block _ (Nat.lt_of_lt_of_le (Array.getElem?_eq_some_iff.1 K3.out).1 hb4.size)).trans ((hb4.block _ (Array.getElem?_eq_some_iff.1 K3.out).1 (by simp; omega)).trans K3.out))
  have B4 := Lib.hid ((B3.out.trans hb4).trans (But.of_gr g4.out))
  clear hS4 hb4 g4 S3 K3 B3
  obtain ⟨c0, c1, c2, c3, c4, c5, c6, c7, cf⟩ := S4.out.cells
  go_wp2_with fail
  go_quiet (fail)
  clear c0 c1 c2 c3 c4 c5 c6 c7 cf
  go_wp2_with fail
  refine (HA.out _).mono ?_
  rintro e w5 ⟨rfl, rfl⟩
  go_wp2_with fail
  refine (HD.out _).mono ?_
  rintro e w5 ⟨rfl, rfl⟩
  go_wp2_with fail
  refine (HR.out _ (S4.out.gr ((Gr.refl _).drewN _))).mono ?_
  rintro e w6 ⟨rfl, hS6, hb6⟩
  have S6 := Lib.hid hS6
  have K6 := Lib.hid ((hb6.block _ (Array.getElem?_eq_some_iff.1 K4.out).1 (by simp; omega)).trans K4.out)
  have B6 := Lib.hid ((B4.out.trans (But.of_gr ((Gr.refl _).drewN _))).trans hb6)
  clear hS6 hb6 S4 K4 B4 HR
  go_wp2_with (refine wpList_store_tok rfl (.tmp 2) (.tmp 53) rfl (t := tk) rfl rfl K6.out rfl ?_)
  intro W9 hb9 hk9
  have B9 := Lib.hid hb9
  have K9 := Lib.hid hk9
  clear hb9 hk9
  go_wp2_with fail
  refine bodyPost_ret (results_tok rfl rfl K9.out) rfl ?_
  exact ⟨rfl, S6.out.but B9.out (by omega) (by omega), B6.out.late (Nat.le_refl _) B9.out⟩
set_option maxRecDepth 100000 in
set_option maxHeartbeats 1000000 in
theorem token_sign_f (h : Sc w P M s at_ en false tv bv ov) (hx : s.data.toList[at_]? = some x) (ha : alphaB x.toNat = false) (hd : digB x.toNat = false)  (hr : Reads 63 P M s at_ b en false tv bv ov tk) :
    Calls Tryd.prog 54 #[.pointer (some ⟨P, 0, none⟩)] w fun e w' => e = .returned tk.val ∧ Sc w' P M s b en false tv bv ov ∧ But P w w' := by
  have hL : at_ < s.data.toList.length := (List.getElem?_eq_some_iff.1 hx).1
  have hat : at_ < s.size := by rw [sizeL] at hL; exact hL
  have ex : s[at_] = x := by rw [byteE s at_ hat hL]; exact (List.getElem?_eq_some_iff.1 hx).2
  have hat' : (at_ : Int) < (s.size : Int) := by omega
  have HA := Lib.hid (fun w => alpha_p x.toNat w)
  have HD := Lib.hid (fun w => dig_p x.toNat w)
  rw [ha] at HA
  rw [hd] at HD
  have HR := Lib.hid hr
  unfold Reads at HR
  clear hr hx ha hd
  have H := Lib.hid h
  have hP : P < w.heap.size := h.lt.1
  have hM : M < w.heap.size := h.lt.2
  obtain ⟨c0, c1, c2, c3, c4, c5, c6, c7, cf⟩ := (h.gr ((Gr.refl w).alloc (.cells #[.int .i64 0, .int .i64 0, .string ⟨#[]⟩, .string ⟨#[]⟩, .string ⟨#[]⟩, .int .i64 0] 32))).cells
  have S1 := Lib.hid (h.gr ((Gr.refl w).alloc (.cells #[.int .i64 0, .int .i64 0, .string ⟨#[]⟩, .string ⟨#[]⟩, .string ⟨#[]⟩, .int .i64 0] 32)))
  have K1 : Hid ((w.alloc (.cells #[.int .i64 0, .int .i64 0, .string ⟨#[]⟩, .string ⟨#[]⟩, .string ⟨#[]⟩, .int .i64 0] 32)).heap[w.heap.size]? = some (.cells #[.int .i64 0, .int .i64 0, .string ⟨#[]⟩, .string ⟨#[]⟩, .string ⟨#[]⟩, .int .i64 0] 32 (0, 0))) := Lib.hid (heap_alloc_new w _)
  have B1 := Lib.hid (But.of_gr (P := P) ((Gr.refl w).alloc (.cells #[.int .i64 0, .int .i64 0, .string ⟨#[]⟩, .string ⟨#[]⟩, .string ⟨#[]⟩, .int .i64 0] 32)))
  clear h
  go_enter Tryd.func54, Tryd.ntmps54
  go_wp2_with fail
  go_quiet (fail)
  clear c0 c1 c2 c3 c4 c5 c6 c7 cf
  go_wp2_with fail
  refine (HA.out _).mono ?_
  rintro e w5 ⟨rfl, rfl⟩
  go_wp2_with fail
  refine (HD.out _).mono ?_
  rintro e w5 ⟨rfl, rfl⟩
  go_wp2_with fail
  refine (HR.out _ (S1.out.gr ((Gr.refl _).drewN _))).mono ?_
  rintro e w6 ⟨rfl, hS6, hb6⟩
  have S6 := Lib.hid hS6
  have K6 := Lib.hid ((hb6.block _ (Array.getElem?_eq_some_iff.1 K1.out).1 (by simp; omega)).trans K1.out)
  have B6 := Lib.hid ((B1.out.trans (But.of_gr ((Gr.refl _).drewN _))).trans hb6)
  clear hS6 hb6 S1 K1 B1 HR
  go_wp2_with (refine wpList_store_tok rfl (.tmp 2) (.tmp 55) rfl (t := tk) rfl rfl K6.out rfl ?_)
  intro W9 hb9 hk9
  have B9 := Lib.hid hb9
  have K9 := Lib.hid hk9
  clear hb9 hk9
  go_wp2_with fail
  refine bodyPost_ret (results_tok rfl rfl K9.out) rfl ?_
  exact ⟨rfl, S6.out.but B9.out (by omega) (by omega), B6.out.late (Nat.le_refl _) B9.out⟩
set_option maxRecDepth 100000 in
set_option maxHeartbeats 1000000 in
theorem token_variable (h : Sc w P M s at_ en true tv bv ov) (hq : Finds 58 P M s at_ at_ en true tv bv ov tok0 false) (hh : Finds 59 P M s at_ at_ en true tv bv ov tok0 false) (hf : Finds 60 P M s at_ b en true tv bv ov tk true) :
    Calls Tryd.prog 54 #[.pointer (some ⟨P, 0, none⟩)] w fun e w' => e = .returned tk.val ∧ Sc w' P M s b en true tv bv ov ∧ But P w w' := by
  have HF := Lib.hid hf
  unfold Finds at HF
  rw [show tk.val = .agg #[.int .i64 tk.kind, .int .i64 tk.place, .string tk.text, .string tk.repl, .string tk.more, .int .i64 tk.opn] from rfl] at HF
  clear hf
  have HQ := Lib.hid hq
  unfold Finds at HQ
  rw [tok0_val] at HQ
  have HH := Lib.hid hh
  unfold Finds at HH
  rw [tok0_val] at HH
  clear hq hh
  have H := Lib.hid h
  have hP : P < w.heap.size := h.lt.1
  have hM : M < w.heap.size := h.lt.2
  obtain ⟨c0, c1, c2, c3, c4, c5, c6, c7, cf⟩ := (h.gr ((Gr.refl w).alloc (.cells #[.int .i64 0, .int .i64 0, .string ⟨#[]⟩, .string ⟨#[]⟩, .string ⟨#[]⟩, .int .i64 0] 32))).cells
  have S1 := Lib.hid (h.gr ((Gr.refl w).alloc (.cells #[.int .i64 0, .int .i64 0, .string ⟨#[]⟩, .string ⟨#[]⟩, .string ⟨#[]⟩, .int .i64 0] 32)))
  have K1 : Hid ((w.alloc (.cells #[.int .i64 0, .int .i64 0, .string ⟨#[]⟩, .string ⟨#[]⟩, .string ⟨#[]⟩, .int .i64 0] 32)).heap[w.heap.size]? = some (.cells #[.int .i64 0, .int .i64 0, .string ⟨#[]⟩, .string ⟨#[]⟩, .string ⟨#[]⟩, .int .i64 0] 32 (0, 0))) := Lib.hid (heap_alloc_new w _)
  have B1 := Lib.hid (But.of_gr (P := P) ((Gr.refl w).alloc (.cells #[.int .i64 0, .int .i64 0, .string ⟨#[]⟩, .string ⟨#[]⟩, .string ⟨#[]⟩, .int .i64 0] 32)))
  clear h
  go_enter Tryd.func54, Tryd.ntmps54
  go_wp2_with fail
  clear c0 c1 c2 c3 c4 c5 c6 c7 cf
  refine (HQ.out _ S1.out).mono ?_
  rintro e2 w2 ⟨rfl, hS2, hb2⟩
  have g2 := Lib.hid ((Gr.refl w2).alloc (.cells #[.int .i64 0, .int .i64 0, .string ⟨#[]⟩, .string ⟨#[]⟩, .string ⟨#[]⟩, .int .i64 0] 32))
  have S2 := Lib.hid (hS2.gr g2.out)
  have K2 := Lib.hid ((g2.out.block _ (Nat.lt_of_lt_of_le (Array.getElem?_eq_some_iff.1 K1.out).1 hb2.size)).trans ((hb2.block _ (Array.getElem?_eq_some_iff.1 K1.out).1 (by simp; omega)).trans K1.out))
  have B2 := Lib.hid ((B1.out.trans hb2).trans (But.of_gr g2.out))
  clear hS2 hb2 g2 S1 K1 B1
  go_wp2_with fail
  refine (HH.out _ S2.out).mono ?_
  rintro e3 w3 ⟨rfl, hS3, hb3⟩
  have g3 := Lib.hid ((Gr.refl w3).alloc (.cells #[.int .i64 0, .int .i64 0, .string ⟨#[]⟩, .string ⟨#[]⟩, .string ⟨#[]⟩, .int .i64 0] 32))
  have S3 := Lib.hid (hS3.gr g3.out)
  have K3 := Lib.hid ((g3.out.block _ (Nat.lt_of_lt_of_le (Array.getElem?_eq_some_iff.1 K2.out).1 hb3.size)).trans ((hb3.block _ (Array.getElem?_eq_some_iff.1 K2.out).1 (by simp; omega)).trans K2.out))
  have B3 := Lib.hid ((B2.out.trans hb3).trans (But.of_gr g3.out))
  clear hS3 hb3 g3 S2 K2 B2
  go_wp2_with fail
  refine (HF.out _ S3.out).mono ?_
  rintro e4 w4 ⟨rfl, hS4, hb4⟩
  have g4 := Lib.hid ((Gr.refl w4).alloc (.cells #[.int .i64 tk.kind, .int .i64 tk.place, .string tk.text, .string tk.repl, .string tk.more, .int .i64 tk.opn] 32))
  have S4 := Lib.hid (hS4.gr g4.out)
  have K4 := Lib.hid ((g4.out.block _ (Nat.lt_of_lt_of_le (Array.getElem?_eq_some_iff.1 K3.out).1 hb4.size)).trans ((hb4.block _ (Array.getElem?_eq_some_iff.1 K3.out).1 (by simp; omega)).trans K3.out))
  have B4 := Lib.hid ((B3.out.trans hb4).trans (But.of_gr g4.out))
  clear hS4 hb4 g4 S3 K3 B3
  go_wp2_with (refine wpList_store_tok rfl (.tmp 2) (.tmp 34) rfl (t := tk) rfl rfl K4.out rfl ?_)
  intro W9 hb9 hk9
  have B9 := Lib.hid hb9
  have K9 := Lib.hid hk9
  clear hb9 hk9
  go_wp2_with fail
  refine bodyPost_ret (results_tok rfl rfl K9.out) rfl ?_
  exact ⟨rfl, S4.out.but B9.out (by omega) (by omega), B4.out.late (Nat.le_refl _) B9.out⟩
set_option maxRecDepth 100000 in
set_option maxHeartbeats 1000000 in
theorem token_quote (h : Sc w P M s at_ en true tv bv ov) (hf : Finds 58 P M s at_ b en true tv bv ov tk true) :
    Calls Tryd.prog 54 #[.pointer (some ⟨P, 0, none⟩)] w fun e w' => e = .returned tk.val ∧ Sc w' P M s b en true tv bv ov ∧ But P w w' := by
  have HF := Lib.hid hf
  unfold Finds at HF
  rw [show tk.val = .agg #[.int .i64 tk.kind, .int .i64 tk.place, .string tk.text, .string tk.repl, .string tk.more, .int .i64 tk.opn] from rfl] at HF
  clear hf
  have H := Lib.hid h
  have hP : P < w.heap.size := h.lt.1
  have hM : M < w.heap.size := h.lt.2
  obtain ⟨c0, c1, c2, c3, c4, c5, c6, c7, cf⟩ := (h.gr ((Gr.refl w).alloc (.cells #[.int .i64 0, .int .i64 0, .string ⟨#[]⟩, .string ⟨#[]⟩, .string ⟨#[]⟩, .int .i64 0] 32))).cells
  have S1 := Lib.hid (h.gr ((Gr.refl w).alloc (.cells #[.int .i64 0, .int .i64 0, .string ⟨#[]⟩, .string ⟨#[]⟩, .string ⟨#[]⟩, .int .i64 0] 32)))
  have K1 : Hid ((w.alloc (.cells #[.int .i64 0, .int .i64 0, .string ⟨#[]⟩, .string ⟨#[]⟩, .string ⟨#[]⟩, .int .i64 0] 32)).heap[w.heap.size]? = some (.cells #[.int .i64 0, .int .i64 0, .string ⟨#[]⟩, .string ⟨#[]⟩, .string ⟨#[]⟩, .int .i64 0] 32 (0, 0))) := Lib.hid (heap_alloc_new w _)
  have B1 := Lib.hid (But.of_gr (P := P) ((Gr.refl w).alloc (.cells #[.int .i64 0, .int .i64 0, .string ⟨#[]⟩, .string ⟨#[]⟩, .string ⟨#[]⟩, .int .i64 0] 32)))
  clear h
  go_enter Tryd.func54, Tryd.ntmps54
  go_wp2_with fail
  clear c0 c1 c2 c3 c4 c5 c6 c7 cf
  refine (HF.out _ S1.out).mono ?_
  rintro e2 w2 ⟨rfl, hS2, hb2⟩
  have g2 := Lib.hid ((Gr.refl w2).alloc (.cells #[.int .i64 tk.kind, .int .i64 tk.place, .string tk.text, .string tk.repl, .string tk.more, .int .i64 tk.opn] 32))
  have S2 := Lib.hid (hS2.gr g2.out)
  have K2 := Lib.hid ((g2.out.block _ (Nat.lt_of_lt_of_le (Array.getElem?_eq_some_iff.1 K1.out).1 hb2.size)).trans ((hb2.block _ (Array.getElem?_eq_some_iff.1 K1.out).1 (by simp; omega)).trans K1.out))
  have B2 := Lib.hid ((B1.out.trans hb2).trans (But.of_gr g2.out))
  clear hS2 hb2 g2 S1 K1 B1
  go_wp2_with (refine wpList_store_tok rfl (.tmp 2) (.tmp 20) rfl (t := tk) rfl rfl K2.out rfl ?_)
  intro W9 hb9 hk9
  have B9 := Lib.hid hb9
  have K9 := Lib.hid hk9
  clear hb9 hk9
  go_wp2_with fail
  refine bodyPost_ret (results_tok rfl rfl K9.out) rfl ?_
  exact ⟨rfl, S2.out.but B9.out (by omega) (by omega), B2.out.late (Nat.le_refl _) B9.out⟩
end Go.Proofs.YtaoehbnjipegoaaDoor
