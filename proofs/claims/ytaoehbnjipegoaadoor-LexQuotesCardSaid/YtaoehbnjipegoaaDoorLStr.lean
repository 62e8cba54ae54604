/- Texts without interpolation, from their delimiter on. -/
import Derived.Test.YtaoehbnjipegoaaDoorLPlain
namespace Go.Proofs.YtaoehbnjipegoaaDoor
open Go.RowKit Go.Shelf
variable {w : World} {P M : Nat} {s : ByteArray} {at_ en b : Nat} {tm : Bool} {tv bv ov : Value} {f m : Nat}
set_option maxRecDepth 100000 in
set_option maxHeartbeats 2000000 in
theorem qtoken_str {Q fr : Nat} (h : Sc w P M s at_ en tm tv bv ov) (hq : Quo w Q P fr 39) (hQP : Q ≠ P) (hs : s.size ≤ 140737488351232) (hm : endR s.data.toList 39 39 f 0 (at_ + 1) = some m) :
    Calls Tryd.prog 67 #[.pointer (some ⟨Q, 0, none⟩), .int .i64 4] w fun e w' => ∃ q : ByteArray, q.data.toList = plL ((s.data.toList.drop (at_ + 1)).take (m - (at_ + 1))) ∧ e = .returned (Tok.val ⟨4, 0, q, ⟨#[]⟩, ⟨#[]⟩, 0⟩) ∧ Sc w' P M s (m + 1) en tm tv bv ov ∧ But P w w' := by
  have H := Lib.hid h
  have HQ := Lib.hid hq
  have hle := endR_le hm
  rw [sizeL] at hle
  have hmb : at_ + 1 ≤ s.size := by omega
  have HPt := Lib.hid (fun (W : World) (hS : Sc W P M s (at_ + 1) en tm tv bv ov) (hq : Quo W Q P fr 39) => part_m hS hq hQP hs (e := 39) rfl (by decide) (by decide) hm)
  have hwl : (((s.data.toList.drop (at_ + 1)).take (m - (at_ + 1))).length) ≤ 140737488351232 := by rw [List.length_take, List.length_drop, sizeL]; omega
  have HWS := Lib.hid (fun w => plain39 ⟨((s.data.toList.drop (at_ + 1)).take (m - (at_ + 1))).toArray⟩ (by rw [← sizeL]; simpa using hwl) w)
  rw [show (⟨((s.data.toList.drop (at_ + 1)).take (m - (at_ + 1))).toArray⟩ : ByteArray).data.toList = (s.data.toList.drop (at_ + 1)).take (m - (at_ + 1)) from rfl] at HWS
  generalize (s.data.toList.drop (at_ + 1)).take (m - (at_ + 1)) = raw at *
  have hP : P < w.heap.size := h.lt.1
  have hM : M < w.heap.size := h.lt.2
  have hQ : Q < w.heap.size := (Array.getElem?_eq_some_iff.1 hq).1
  obtain ⟨a1, ha1⟩ : ∃ a1, a1 = at_ + 1 := ⟨_, rfl⟩
  rw [← ha1] at HPt
  have hw1 : IntKind.i64.wrap ((at_ : Int) + 1) = (a1 : Int) := by rw [IntKind.wrap_i64]; omega
  have hw2 : wrap64 ((at_ : Int) + 1) = (a1 : Int) := by simp only [wrap64]; omega
  have G0 : Gr w ((w.alloc (.cells #[.int .i64 0, .int .i64 0, .string ⟨#[]⟩, .string ⟨#[]⟩, .string ⟨#[]⟩, .int .i64 0] 32)).alloc (.cells #[.int .i64 4, .int .i64 0, .string ⟨#[]⟩, .string ⟨#[]⟩, .string ⟨#[]⟩, .int .i64 0] 32)) := ((Gr.refl w).alloc _).alloc _
  obtain ⟨c0, c1, c2, c3, c4, c5, c6, c7, cf⟩ := (h.gr G0).cells
  obtain ⟨q0, q1, q2⟩ := (hq.but (But.of_gr G0) hQP).cells
  clear h hq hle hwl hm hmb ha1 G0
  go_enter Tryd.func67, Tryd.ntmps67
  go_wp2_with fail
  generalize hX : ((w.setCell ⟨P, 1, none⟩ (.int .i64 (a1 : Int))).alloc (.cells #[.int .i64 0, .int .i64 0, .string ⟨#[]⟩, .string ⟨#[]⟩, .string ⟨#[]⟩, .int .i64 0] 32)).alloc (.cells #[.int .i64 4, .int .i64 0, .string ⟨#[]⟩, .string ⟨#[]⟩, .string ⟨#[]⟩, .int .i64 0] 32) = X
  have hsX : (w.setCell ⟨P, 1, none⟩ (.int .i64 (a1 : Int))).heap.size = w.heap.size := by simp [World.setCell]
  have GX : Gr (w.setCell ⟨P, 1, none⟩ (.int .i64 (a1 : Int))) X := by rw [← hX]; exact ((Gr.refl _).alloc _).alloc _
  have SX := Lib.hid ((H.out.setAt a1).gr GX)
  have BX := Lib.hid ((But.set (P := P) (w := w) 1 (.int .i64 (a1 : Int))).trans (But.of_gr GX))
  have K4 : Hid (X.heap[w.heap.size]? = some (.cells #[.int .i64 0, .int .i64 0, .string ⟨#[]⟩, .string ⟨#[]⟩, .string ⟨#[]⟩, .int .i64 0] 32 (0, 0))) := Lib.hid (by
    rw [← hX, heap_alloc_old _ _ (by simp), ← hsX]; exact heap_alloc_new _ _)
  have K5 : Hid (X.heap[w.heap.size + 1]? = some (.cells #[.int .i64 4, .int .i64 0, .string ⟨#[]⟩, .string ⟨#[]⟩, .string ⟨#[]⟩, .int .i64 0] 32 (0, 0))) := Lib.hid (by
    rw [← hX]; have := heap_alloc_new ((w.setCell ⟨P, 1, none⟩ (.int .i64 (a1 : Int))).alloc (.cells #[.int .i64 0, .int .i64 0, .string ⟨#[]⟩, .string ⟨#[]⟩, .string ⟨#[]⟩, .int .i64 0] 32)) (.cells #[.int .i64 4, .int .i64 0, .string ⟨#[]⟩, .string ⟨#[]⟩, .string ⟨#[]⟩, .int .i64 0] 32); simpa using this)
  clear hX GX hsX c0 c1 c2 c3 c4 c5 c6 c7 cf q0 q1 q2 hw1 hw2
  refine (HPt.out _ SX.out (HQ.out.but BX.out hQP)).mono ?_
  rintro e2 w2 ⟨rfl, hS2, hb2⟩
  have S2 := Lib.hid hS2
  have B2 := Lib.hid (BX.out.trans hb2)
  have K42 := Lib.hid ((hb2.block _ (Array.getElem?_eq_some_iff.1 K4.out).1 (by simp; omega)).trans K4.out)
  have K52 := Lib.hid ((hb2.block _ (Array.getElem?_eq_some_iff.1 K5.out).1 (by simp; omega)).trans K5.out)
  obtain ⟨q0, q1, q2⟩ := (HQ.out.but B2.out hQP).cells
  rw [show ((39 : UInt8).toNat : Int) = 39 from rfl] at q2
  clear hS2 hb2 SX BX K4 K5 HPt
  go_wp2_with fail
  refine (HWS.out _).mono ?_
  rintro e3 w3 ⟨q, hq, rfl, g3⟩
  have Hq := Lib.hid hq
  have S3 := Lib.hid (S2.out.gr g3)
  have B3 := Lib.hid (B2.out.trans (But.of_gr g3))
  have K43 := Lib.hid ((g3.block _ (Array.getElem?_eq_some_iff.1 K42.out).1).trans K42.out)
  have K53 := Lib.hid ((g3.block _ (Array.getElem?_eq_some_iff.1 K52.out).1).trans K52.out)
  clear hq g3 S2 B2 K42 K52 HWS q0 q1 q2
  have k2 : w3.cell? ⟨w.heap.size + 1, 2, none⟩ = some (.string ⟨#[]⟩) := by rw [(cellsOf K53.out).1]; rfl
  have kf : ∀ j, w3.frozen? ⟨w.heap.size + 1, j, none⟩ = false := (cellsOf K53.out).2
  have BS : But (w.heap.size + 1) w3 (w3.setCell ⟨w.heap.size + 1, 2, none⟩ (.string q)) := But.set 2 _
  have S4 := Lib.hid (S3.out.but BS (by omega) (by omega))
  have B4 := Lib.hid (B3.out.late (by omega) BS)
  have K44 := Lib.hid ((BS.block _ (Array.getElem?_eq_some_iff.1 K43.out).1 (by simp)).trans K43.out)
  have K54 : Hid ((w3.setCell ⟨w.heap.size + 1, 2, none⟩ (.string q)).heap[w.heap.size + 1]? = some (.cells #[.int .i64 4, .int .i64 0, .string q, .string ⟨#[]⟩, .string ⟨#[]⟩, .int .i64 0] 32 (0, 0))) := Lib.hid (by
    have := K53.out
    simp [World.setCell, Array.getElem?_modify, this])
  clear BS S3 B3 K43 K53
  go_wp2_with (first | (refine wpList_load_row rfl 32 (.tmp 5) rfl (w.heap.size + 1) rfl 32 #[.int .i64 4, .int .i64 0, .string q, .string ⟨#[]⟩, .string ⟨#[]⟩, .int .i64 0] (0, 0) _ K54.out Tryd.underlying32 rfl (by rw [tokInfo]; rfl) ?_) | (refine wpList_store_tok rfl (.tmp 4) (.tmp 98) rfl (t := ⟨4, 0, q, ⟨#[]⟩, ⟨#[]⟩, 0⟩) rfl rfl K44.out rfl ?_))
  intro W7 hb7 hk7
  have B7 := Lib.hid hb7
  have K7 := Lib.hid hk7
  clear hb7 hk7
  go_wp2_with fail
  refine bodyPost_ret (results_tok rfl rfl K7.out) rfl ?_
  exact ⟨q, Hq.out, rfl, S4.out.but B7.out (by omega) (by omega), B4.out.late (Nat.le_refl _) B7.out⟩
set_option maxRecDepth 100000 in
set_option maxHeartbeats 1000000 in
theorem quote_str (h : Sc w P M s at_ en tm tv bv ov) (hat : at_ ≤ s.size) (hs : s.size ≤ 140737488351232) (k : Nat) (hq : quoteL (s.data.toList.drop at_) = some (4, k)) (ho : s.data.toList[at_ + k]? = some 39)
    (hm : endR s.data.toList 39 39 f 0 (at_ + k + 1) = some m) :
    Calls Tryd.prog 58 #[.pointer (some ⟨P, 0, none⟩)] w fun e w' => ∃ q : ByteArray, q.data.toList = plL ((s.data.toList.drop (at_ + k + 1)).take (m - (at_ + k + 1))) ∧ e = .returned (.tuple #[Tok.val ⟨4, 0, q, ⟨#[]⟩, ⟨#[]⟩, 0⟩, .bool true]) ∧ Sc w' P M s (m + 1) en tm tv bv ov ∧ But P w w' := by
  have H := Lib.hid h
  have HQ := Lib.hid (fun w => quoteKind_p (s.extract at_ s.size) (by simp [ByteArray.size_extract]; omega) w)
  rw [dropE, hq, show qkV (some (4, k)) = .tuple #[.int .i64 4, .int .i64 k, .bool true] from rfl] at HQ
  obtain ⟨a, ha⟩ : ∃ a, a = at_ + k := ⟨_, rfl⟩
  rw [← ha] at ho hm ⊢
  have hL : a < s.data.toList.length := (List.getElem?_eq_some_iff.1 ho).1
  have has : a < s.size := by rw [sizeL] at hL; exact hL
  have ea : s[a] = 39 := by rw [byteE s a has hL]; exact (List.getElem?_eq_some_iff.1 ho).2
  have HT := Lib.hid (fun (W : World) (Q fr : Nat) (hS : Sc W P M s a en tm tv bv ov) (hq : Quo W Q P fr 39) (hQP : Q ≠ P) => qtoken_str hS hq hQP hs hm)
  have b0 : (at_ : Int) ≤ (s.size : Int) := by omega
  have ha' : (at_ : Int) + (k : Int) = (a : Int) := by omega
  have hwa : IntKind.i64.wrap (a : Int) = (a : Int) := by rw [IntKind.wrap_i64]; omega
  have b1 : (a : Int) < (s.size : Int) := by omega
  have hP : P < w.heap.size := h.lt.1
  have hM : M < w.heap.size := h.lt.2
  have Ha := Lib.hid ha
  clear h hq ho hm hL ha
  go_enter Tryd.func58, Tryd.ntmps58
  go_wp2_with fail
  generalize hW : w.alloc (.cells #[.int .i64 0, .int .i64 0, .string ⟨#[]⟩, .string ⟨#[]⟩, .string ⟨#[]⟩, .int .i64 0] 32) = W1
  have G1 : Hid (Gr w W1) := Lib.hid (by rw [← hW]; exact (Gr.refl w).alloc _)
  have K1 : Hid (W1.heap[w.heap.size]? = some (.cells #[.int .i64 0, .int .i64 0, .string ⟨#[]⟩, .string ⟨#[]⟩, .string ⟨#[]⟩, .int .i64 0] 32 (0, 0))) := Lib.hid (by rw [← hW]; exact heap_alloc_new w _)
  clear hW
  obtain ⟨c0, c1, c2, c3, c4, c5, c6, c7, cf⟩ := (H.out.gr G1.out).cells
  go_quiet ((go_at_call 66; exact quiet_at (HQ.out _)))
  clear c0 c1 c2 c3 c4 c5 c6 c7 cf
  go_wp2_with fail
  obtain ⟨W2, hW2⟩ : ∃ W2, W2 = W1.drewN nq := ⟨_, rfl⟩
  rw [← hW2]
  have G2 : Hid (Gr w W2) := Lib.hid (by rw [hW2]; exact G1.out.drewN _)
  have K2 : Hid (W2.heap[w.heap.size]? = some (.cells #[.int .i64 0, .int .i64 0, .string ⟨#[]⟩, .string ⟨#[]⟩, .string ⟨#[]⟩, .int .i64 0] 32 (0, 0))) := Lib.hid (by rw [hW2]; exact K1.out)
  clear hW2 K1 G1
  obtain ⟨c0, c1, c2, c3, c4, c5, c6, c7, cf⟩ := (H.out.gr G2.out).cells
  obtain ⟨d0, d1, _, _, _, _, _, _, _⟩ := (H.out.gr (G2.out.alloc (.cells #[.pointer none, .int .i64 0, .int .u8 0] 80))).cells
  go_big_region
  clear c0 c1 c2 c3 c4 c5 c6 c7 cf d0 d1
  obtain ⟨X, hX⟩ : ∃ X, X = (W2.alloc (.cells #[.pointer (some ⟨P, 0, none⟩), .int .i64 (at_ : Int), .int .u8 39] 80)).drew := ⟨_, rfl⟩
  rw [← hX]
  have GX : Hid (Gr W2 X) := Lib.hid (by rw [hX]; exact ((Gr.refl W2).alloc _).drew)
  have QX : Hid (Quo X W2.heap.size P at_ 39) := Lib.hid (by rw [hX]; exact heap_alloc_new W2 _)
  have KX := Lib.hid ((GX.out.block _ (Array.getElem?_eq_some_iff.1 K2.out).1).trans K2.out)
  have SX := Lib.hid ((H.out.gr G2.out).gr GX.out)
  have hW2 : w.heap.size ≤ W2.heap.size := G2.out.size
  have BX := Lib.hid (But.of_gr (P := P) (Gr.trans G2.out GX.out))
  clear hX K2 GX
  obtain ⟨c0, c1, c2, c3, c4, c5, c6, c7, cf⟩ := SX.out.cells
  go_wp2_with fail
  have BS : But P X (X.setCell ⟨P, 1, none⟩ (.int .i64 (a : Int))) := But.set 1 _
  have S3 := Lib.hid (SX.out.setAt a)
  have B3 := Lib.hid (BX.out.trans BS)
  have Q3 := Lib.hid (QX.out.but BS (by omega))
  have K3 := Lib.hid ((BS.block _ (Array.getElem?_eq_some_iff.1 KX.out).1 (by simp; omega)).trans KX.out)
  clear BS SX BX QX KX c0 c1 c2 c3 c4 c5 c6 c7 cf
  refine (HT.out _ _ _ S3.out Q3.out (by omega)).mono ?_
  rintro e4 w4 ⟨q, hq, rfl, hS4, hb4⟩
  have Hq := Lib.hid hq
  have S4 := Lib.hid hS4
  have B4 := Lib.hid (B3.out.trans hb4)
  have K4 := Lib.hid ((hb4.block _ (Array.getElem?_eq_some_iff.1 K3.out).1 (by simp; omega)).trans K3.out)
  clear hq hS4 hb4 S3 B3 Q3 K3 HT
  go_wp2_with (refine wpList_store_tok rfl (.tmp 2) (.tmp 51) rfl (t := ⟨4, 0, q, ⟨#[]⟩, ⟨#[]⟩, 0⟩) rfl rfl K4.out rfl ?_)
  intro W5 hb5 hk5
  have B5 := Lib.hid hb5
  have K5 := Lib.hid hk5
  clear hb5 hk5
  go_wp2_with fail
  refine bodyPost_ret (results_tokB rfl rfl K5.out rfl) rfl ?_
  exact ⟨q, Hq.out, rfl, S4.out.but B5.out (by omega) (by omega), B4.out.late (Nat.le_refl _) B5.out⟩
end Go.Proofs.YtaoehbnjipegoaaDoor
