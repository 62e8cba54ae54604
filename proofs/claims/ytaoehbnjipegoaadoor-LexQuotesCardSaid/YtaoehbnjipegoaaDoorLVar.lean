/- Bytes among others; variables; what is no heredoc. -/
import Derived.Test.YtaoehbnjipegoaaDoorLSgn
namespace Go.Proofs.YtaoehbnjipegoaaDoor
open Go.RowKit Go.Shelf
theorem idx_any (s : ByteArray) (x : Int) (w : World) : Calls Tryd.prog 42 #[.string s, .int .u8 x] w fun e w' => e = .returned (.int .i64 (Lib.indexByte s.data.toList x.toNat.toUInt8)) ∧ w = w' :=
  (Any.strings_IndexByte Tryd.lays137 s x w).mono fun _ _ ⟨he, h⟩ => ⟨he, h.symm⟩
theorem delim_p (x : Int) (w : World) : Calls Tryd.prog 77 #[.int .u8 x] w fun e w' => e = .returned (.bool (delimB x)) ∧ w = w' := by
  have HI := Lib.hid (fun w => idx_any ⟨#[40, 91, 123, 60, 47, 33, 124, 126, 39, 34]⟩ x w)
  rw [show (⟨#[40, 91, 123, 60, 47, 33, 124, 126, 39, 34]⟩ : ByteArray).data.toList = [40, 91, 123, 60, 47, 33, 124, 126, 39, 34] from rfl] at HI
  unfold delimB
  generalize Lib.indexByte [40, 91, 123, 60, 47, 33, 124, 126, 39, 34] x.toNat.toUInt8 = r at *
  go_enter Tryd.func77, Tryd.ntmps77
  go_wp2_with fail
  refine (HI.out _).mono ?_
  rintro e w1 ⟨rfl, rfl⟩
  go_wp2
  go_ret
  exact ⟨by first | rfl | simp, rfl⟩
theorem sigil_p (x : Int) (w : World) : Calls Tryd.prog 72 #[.int .u8 x] w fun e w' => e = .returned (.bool (sigilB x)) ∧ w = w' := by
  have HI := Lib.hid (fun w => idx_any ⟨#[36, 64, 37, 38]⟩ x w)
  rw [show (⟨#[36, 64, 37, 38]⟩ : ByteArray).data.toList = [36, 64, 37, 38] from rfl] at HI
  unfold sigilB
  generalize Lib.indexByte [36, 64, 37, 38] x.toNat.toUInt8 = r at *
  go_enter Tryd.func72, Tryd.ntmps72
  go_wp2_with fail
  refine (HI.out _).mono ?_
  rintro e w1 ⟨rfl, rfl⟩
  go_wp2
  go_ret
  exact ⟨by first | rfl | simp, rfl⟩
theorem cutNo (s p : ByteArray) (h : Lib.hasPrefix s.data.toList p.data.toList = false) (w : World) : Calls Tryd.prog 68 #[.string s, .string p] w fun e w' => e = .returned (.tuple #[.string ⟨(Lib.trimPrefix s.data.toList p.data.toList).toArray⟩, .bool false]) ∧ w = w' := by
  have g := Any.strings_CutPrefix Tryd.lays103 s p w
  change Calls Tryd.prog 68 _ _ _ at g
  rw [h] at g
  exact g.mono fun e w' ⟨he, hb⟩ => ⟨he, hb.symm⟩
variable {w : World} {P M : Nat} {s : ByteArray} {at_ en : Nat} {tm : Bool} {tv bv ov : Value}
/-- a token and whether there is one -/
theorem results_tokB {fn : Func} {p u : Tmp} (h : fn.results = #[.cell p 32, .tmp u]) {tmps : Array Value} {W : World} {g : Nat} {t : Tok} {b : Bool} (hp : tmps.getD p undef = .pointer (some ⟨g, 0, none⟩))
    (hg : W.heap[g]? = some (.cells t.cells.toArray 32 (0, 0))) (hu : tmps.getD u undef = .bool b) : (results fn tmps).run Tryd.prog W = .ok (.tuple #[t.val, .bool b]) W := by
  have hl := run_loadVar_row (P := Tryd.prog) W g 32 32 t.cells.toArray (0, 0) _ hg Tryd.underlying32 rfl (by rw [tokInfo]; rfl)
  rw [results_cell_tmp h, hp, hu]
  simp only [asAddr, Sem.run_pure, Result.andThen_ok, hl]
  rfl
def tok0 : Tok := ⟨0, 0, ⟨#[]⟩, ⟨#[]⟩, ⟨#[]⟩, 0⟩
set_option maxRecDepth 100000 in
set_option maxHeartbeats 1000000 in
theorem heredoc_no (h : Sc w P M s at_ en tm tv bv ov) (hat : at_ ≤ s.size) (hn : Lib.hasPrefix (s.data.toList.drop at_) [60, 60] = false) :
    Calls Tryd.prog 59 #[.pointer (some ⟨P, 0, none⟩)] w fun e w' => e = .returned (.tuple #[tok0.val, .bool false]) ∧ Sc w' P M s at_ en tm tv bv ov ∧ But P w w' := by
  have H := Lib.hid h
  have hcp := cutNo (s.extract at_ s.size) ⟨#[60, 60]⟩ (by rw [dropE]; exact hn)
  generalize (⟨(Lib.trimPrefix (s.extract at_ s.size).data.toList (⟨#[60, 60]⟩ : ByteArray).data.toList).toArray⟩ : ByteArray) = cut at hcp
  have HC := Lib.hid hcp
  have b0 : (at_ : Int) ≤ (s.size : Int) := by omega
  have hP : P < w.heap.size := h.lt.1
  have hM : M < w.heap.size := h.lt.2
  clear h hn hcp
  go_enter Tryd.func59, Tryd.ntmps59
  go_wp2_with fail
  generalize hW : w.alloc (.cells #[.int .i64 0, .int .i64 0, .string ⟨#[]⟩, .string ⟨#[]⟩, .string ⟨#[]⟩, .int .i64 0] 32) = W1
  have G1 : Hid (Gr w W1) := Lib.hid (by rw [← hW]; exact (Gr.refl w).alloc _)
  have K1 : Hid (W1.heap[w.heap.size]? = some (.cells #[.int .i64 0, .int .i64 0, .string ⟨#[]⟩, .string ⟨#[]⟩, .string ⟨#[]⟩, .int .i64 0] 32 (0, 0))) := Lib.hid (by rw [← hW]; exact heap_alloc_new w _)
  clear hW
  obtain ⟨c0, c1, c2, c3, c4, c5, c6, c7, cf⟩ := (H.out.gr G1.out).cells
  go_quiet ((go_at_call 68; exact quiet_at (HC.out _)))
  clear c0 c1 c2 c3 c4 c5 c6 c7 cf
  go_wp2_with (refine wpList_store_tok rfl (.tmp 2) (.tmp 24) rfl (t := tok0) rfl rfl K1.out rfl ?_)
  intro W3 hb3 hk3
  have B3 := Lib.hid hb3
  have K3 := Lib.hid hk3
  clear hb3 hk3
  go_wp2_with fail
  refine bodyPost_ret (results_tokB rfl rfl K3.out rfl) rfl ?_
  exact ⟨rfl, (H.out.gr (G1.out.drewN _)).but B3.out (by omega) (by omega), (But.of_gr (G1.out.drewN _)).late (Nat.le_refl _) B3.out⟩
set_option maxRecDepth 100000 in
set_option maxHeartbeats 1000000 in
theorem variable_no (h : Sc w P M s at_ en tm tv bv ov) (hat : at_ < s.size) (hs : s.size ≤ 140737488351232) (x : UInt8) (hx : s.data.toList[at_]? = some x) (hn : sigilB x.toNat = false) :
    Calls Tryd.prog 60 #[.pointer (some ⟨P, 0, none⟩)] w fun e w' => e = .returned (.tuple #[tok0.val, .bool false]) ∧ Sc w' P M s at_ en tm tv bv ov ∧ But P w w' := by
  have H := Lib.hid h
  have HS := Lib.hid (fun w => sigil_p x.toNat w)
  rw [hn] at HS
  have hL : at_ < s.data.toList.length := by rw [sizeL]; exact hat
  have en_ : s[at_] = x := by rw [byteE s at_ hat hL]; rw [List.getElem?_eq_getElem hL] at hx; exact Option.some.inj hx
  have b0 : (at_ : Int) < (s.size : Int) := by omega
  have b1 : (at_ : Int) + 1 ≤ 9223372036854775807 := by omega
  have b2 : -9223372036854775808 ≤ (at_ : Int) + 1 := by omega
  have b3 : (at_ : Int) + 1 ≤ (s.size : Int) := by omega
  have hP : P < w.heap.size := h.lt.1
  have hM : M < w.heap.size := h.lt.2
  clear h hn hx
  go_enter Tryd.func60, Tryd.ntmps60
  go_wp2_with fail
  generalize hW : w.alloc (.cells #[.int .i64 0, .int .i64 0, .string ⟨#[]⟩, .string ⟨#[]⟩, .string ⟨#[]⟩, .int .i64 0] 32) = W1
  have G1 : Hid (Gr w W1) := Lib.hid (by rw [← hW]; exact (Gr.refl w).alloc _)
  have K1 : Hid (W1.heap[w.heap.size]? = some (.cells #[.int .i64 0, .int .i64 0, .string ⟨#[]⟩, .string ⟨#[]⟩, .string ⟨#[]⟩, .int .i64 0] 32 (0, 0))) := Lib.hid (by rw [← hW]; exact heap_alloc_new w _)
  clear hW
  obtain ⟨c0, c1, c2, c3, c4, c5, c6, c7, cf⟩ := (H.out.gr G1.out).cells
  go_quiet (fail)
  clear c0 c1 c2 c3 c4 c5 c6 c7 cf
  go_wp2_with fail
  refine (HS.out _).mono ?_
  rintro e w2 ⟨rfl, rfl⟩
  go_wp2_with (refine wpList_store_tok rfl (.tmp 2) (.tmp 33) rfl (t := tok0) rfl rfl K1.out rfl ?_)
  intro W3 hb3 hk3
  have B3 := Lib.hid hb3
  have K3 := Lib.hid hk3
  clear hb3 hk3
  go_wp2_with fail
  refine bodyPost_ret (results_tokB rfl rfl K3.out rfl) rfl ?_
  exact ⟨rfl, (H.out.gr (G1.out.drewN _)).but B3.out (by omega) (by omega), (But.of_gr (G1.out.drewN _)).late (Nat.le_refl _) B3.out⟩
set_option maxRecDepth 100000 in
set_option maxHeartbeats 1000000 in
theorem variable_yes (h : Sc w P M s at_ en tm tv bv ov) (hat : at_ + 1 < s.size) (hs : s.size ≤ 140737488351232) (x : UInt8) (hx : s.data.toList[at_]? = some x) (hn : sigilB x.toNat = true) (n : Nat) (hw : wordN (s.data.toList.drop (at_ + 1)) = n) (h0 : 0 < n) (h12 : n ≤ 12) :
    Calls Tryd.prog 60 #[.pointer (some ⟨P, 0, none⟩)] w fun e w' => e = .returned (.tuple #[(tok 2 (s.extract at_ (at_ + (1 + n)))).val, .bool true]) ∧ Sc w' P M s (at_ + (1 + n)) en tm tv bv ov ∧ But P w w' := by
  have H := Lib.hid h
  have HS := Lib.hid (fun w => sigil_p x.toNat w)
  rw [hn] at HS
  have hL : at_ < s.data.toList.length := by rw [sizeL]; omega
  have hat0 : at_ < s.size := by omega
  have en_ : s[at_] = x := by rw [byteE s at_ hat0 hL]; rw [List.getElem?_eq_getElem hL] at hx; exact Option.some.inj hx
  have hln := wordN_le (s.data.toList.drop (at_ + 1))
  rw [hw, List.length_drop, sizeL] at hln
  have HW := Lib.hid (fun w => word_p (s.extract (at_ + 1) s.size) (by simp [ByteArray.size_extract]; omega) w)
  rw [dropE, hw] at HW
  have HT := Lib.hid (fun (W : World) (hS : Sc W P M s at_ en tm tv bv ov) => take_p hS (1 + n) (by omega) hs)
  have hne : ((s.extract (at_ + 1) s.size).toList == []) = false := by
    rw [ByteArray.toList_eq, dropE]; simp; exact hat
  have b0 : (at_ : Int) < (s.size : Int) := by omega
  have b1 : (at_ : Int) + 1 ≤ 9223372036854775807 := by omega
  have b2 : -9223372036854775808 ≤ (at_ : Int) + 1 := by omega
  have b3 : (at_ : Int) + 1 ≤ (s.size : Int) := by omega
  have n0 : ((n : Int) == 0) = false := by simp; omega
  have n1 : ¬ (n : Int) > 12 := by omega
  have n2 : (1 : Int) + (n : Int) ≤ 9223372036854775807 := by omega
  have n3 : -9223372036854775808 ≤ (1 : Int) + (n : Int) := by omega
  obtain ⟨m, hm⟩ : ∃ m, m = 1 + n := ⟨_, rfl⟩
  have hw1 : IntKind.i64.wrap ((1 : Int) + (n : Int)) = (m : Int) := by rw [IntKind.wrap_i64]; omega
  have hw2 : wrap64 ((1 : Int) + (n : Int)) = (m : Int) := by simp only [wrap64]; omega
  rw [← hm] at HT ⊢
  have hP : P < w.heap.size := h.lt.1
  have hM : M < w.heap.size := h.lt.2
  have Hat := Lib.hid hat
  clear h hn hx hw hln h0 hm n2 n3 hat
  obtain ⟨r, hr⟩ : ∃ r, r = s.extract (at_ + 1) s.size := ⟨_, rfl⟩
  rw [← hr] at HW hne
  have Hr := Lib.hid hr
  clear hr
  go_enter Tryd.func60, Tryd.ntmps60
  go_wp2_with fail
  generalize hW : w.alloc (.cells #[.int .i64 0, .int .i64 0, .string ⟨#[]⟩, .string ⟨#[]⟩, .string ⟨#[]⟩, .int .i64 0] 32) = W1
  have G1 : Hid (Gr w W1) := Lib.hid (by rw [← hW]; exact (Gr.refl w).alloc _)
  have K1 : Hid (W1.heap[w.heap.size]? = some (.cells #[.int .i64 0, .int .i64 0, .string ⟨#[]⟩, .string ⟨#[]⟩, .string ⟨#[]⟩, .int .i64 0] 32 (0, 0))) := Lib.hid (by rw [← hW]; exact heap_alloc_new w _)
  clear hW
  obtain ⟨c0, c1, c2, c3, c4, c5, c6, c7, cf⟩ := (H.out.gr G1.out).cells
  go_quiet (fail)
  clear c0 c1 c2 c3 c4 c5 c6 c7 cf
  rw [← Hr.out]
  go_wp2_with fail
  refine (HS.out _).mono ?_
  rintro e w2 ⟨rfl, rfl⟩
  go_wp2_with fail
  refine (HW.out _).mono ?_
  rintro e w2 ⟨rfl, rfl⟩
  clear b1 b2 b3
  go_wp2_with fail
  refine (HT.out _ (H.out.gr (G1.out.drewN _))).mono ?_
  rintro e w2 ⟨rfl, hS2, hb2⟩
  have K2 := Lib.hid ((hb2.block _ (Array.getElem?_eq_some_iff.1 K1.out).1 (by simp; omega)).trans K1.out)
  have B2 := Lib.hid ((But.of_gr (G1.out.drewN _)).trans hb2)
  have S2 := Lib.hid hS2
  clear hS2 hb2 K1 HT HW
  go_wp2_with (refine wpList_store_tok rfl (.tmp 2) (.tmp 71) rfl (t := tok 2 (s.extract at_ (at_ + m))) rfl rfl K2.out rfl ?_)
  intro W3 hb3 hk3
  have B3 := Lib.hid hb3
  have K3 := Lib.hid hk3
  clear hb3 hk3
  go_wp2_with fail
  refine bodyPost_ret (results_tokB rfl rfl K3.out rfl) rfl ?_
  exact ⟨rfl, S2.out.but B3.out (by omega) (by omega), B2.out.late (Nat.le_refl _) B3.out⟩
end Go.Proofs.YtaoehbnjipegoaaDoor
