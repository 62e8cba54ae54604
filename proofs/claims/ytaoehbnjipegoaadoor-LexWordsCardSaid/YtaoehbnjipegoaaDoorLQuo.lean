/- The scanner's quotes: none, and patterns. -/
import Derived.Test.YtaoehbnjipegoaaDoorLQtok
import Derived.BigRegion
namespace Go.Proofs.YtaoehbnjipegoaaDoor
open Go.RowKit Go.Shelf
variable {w : World} {P M : Nat} {s : ByteArray} {at_ en : Nat} {tm : Bool} {tv bv ov : Value} {o e : UInt8} {f m : Nat}
set_option maxRecDepth 100000 in
set_option maxHeartbeats 1000000 in
theorem quote_no (h : Sc w P M s at_ en tm tv bv ov) (hat : at_ ≤ s.size) (hs : s.size ≤ 140737488351232) (hq : quoteL (s.data.toList.drop at_) = none) :
    Calls Tryd.prog 58 #[.pointer (some ⟨P, 0, none⟩)] w fun e w' => e = .returned (.tuple #[tok0.val, .bool false]) ∧ Sc w' P M s at_ en tm tv bv ov ∧ But P w w' := by
  have H := Lib.hid h
  have HQ := Lib.hid (fun w => quoteKind_p (s.extract at_ s.size) (by simp [ByteArray.size_extract]; omega) w)
  rw [dropE, hq, show qkV none = .tuple #[.int .i64 0, .int .i64 0, .bool false] from rfl] at HQ
  have b0 : (at_ : Int) ≤ (s.size : Int) := by omega
  have hP : P < w.heap.size := h.lt.1
  have hM : M < w.heap.size := h.lt.2
  clear h hq
  go_enter Tryd.func58, Tryd.ntmps58
  go_wp2_with fail
  generalize hW : w.alloc (.cells #[.int .i64 0, .int .i64 0, .string ⟨#[]⟩, .string ⟨#[]⟩, .string ⟨#[]⟩, .int .i64 0] 32) = W1
  have G1 : Hid (Gr w W1) := Lib.hid (by rw [← hW]; exact (Gr.refl w).alloc _)
  have K1 : Hid (W1.heap[w.heap.size]? = some (.cells #[.int .i64 0, .int .i64 0, .string ⟨#[]⟩, .string ⟨#[]⟩, .string ⟨#[]⟩, .int .i64 0] 32 (0, 0))) := Lib.hid (by rw [← hW]; exact heap_alloc_new w _)
  clear hW
  obtain ⟨c0, c1, c2, c3, c4, c5, c6, c7, cf⟩ := (H.out.gr G1.out).cells
  go_quiet ((go_at_call 66; exact quiet_at (HQ.out _)))
  clear c0 c1 c2 c3 c4 c5 c6 c7 cf
  go_wp2_with (refine wpList_store_tok rfl (.tmp 2) (.tmp 24) rfl (t := tok0) rfl rfl K1.out rfl ?_)
  intro W3 hb3 hk3
  have B3 := Lib.hid hb3
  have K3 := Lib.hid hk3
  clear hb3 hk3
  go_wp2_with fail
  refine bodyPost_ret (results_tokB rfl rfl K3.out rfl) rfl ?_
  exact ⟨rfl, (H.out.gr (G1.out.drewN _)).but B3.out (by omega) (by omega), (But.of_gr (G1.out.drewN _)).late (Nat.le_refl _) B3.out⟩
set_option maxRecDepth 100000 in
set_option maxHeartbeats 1000000 in
theorem quote_pat (h : Sc w P M s at_ en tm tv bv ov) (hat : at_ ≤ s.size) (hs : s.size ≤ 140737488351232) (k : Nat) (hq : quoteL (s.data.toList.drop at_) = some (7, k)) (ho : s.data.toList[at_ + k]? = some o) (he : (e.toNat : Int) = partI o.toNat) (he92 : e ≠ 92) (ho92 : o ≠ 92)
    (hm : endR s.data.toList o e f 0 (at_ + k + 1) = some m) (n : Nat) (hn : flagN s.data.toList (m + 1) [105, 109, 115, 120, 103] 0 = n) :
    Calls Tryd.prog 58 #[.pointer (some ⟨P, 0, none⟩)] w fun e w' => ∃ q : ByteArray, q.data.toList = wsL ((s.data.toList.drop (at_ + k + 1)).take (m - (at_ + k + 1))) ∧ e = .returned (.tuple #[Tok.val ⟨7, 0, q, ⟨#[]⟩, s.extract (m + 1) (m + 1 + n), 0⟩, .bool true]) ∧ Sc w' P M s (m + 1 + n) en tm tv bv ov ∧ But P w w' := by
  have H := Lib.hid h
  have HQ := Lib.hid (fun w => quoteKind_p (s.extract at_ s.size) (by simp [ByteArray.size_extract]; omega) w)
  rw [dropE, hq, show qkV (some (7, k)) = .tuple #[.int .i64 7, .int .i64 k, .bool true] from rfl] at HQ
  obtain ⟨a, ha⟩ : ∃ a, a = at_ + k := ⟨_, rfl⟩
  rw [← ha] at ho hm ⊢
  have hL : a < s.data.toList.length := (List.getElem?_eq_some_iff.1 ho).1
  have has : a < s.size := by rw [sizeL] at hL; exact hL
  have ea : s[a] = o := by rw [byteE s a has hL]; exact (List.getElem?_eq_some_iff.1 ho).2
  have HT := Lib.hid (fun (W : World) (Q fr : Nat) (hS : Sc W P M s a en tm tv bv ov) (hq : Quo W Q P fr o) (hQP : Q ≠ P) => qtoken_pat hS hq hQP hs he he92 ho92 hm n hn)
  have b0 : (at_ : Int) ≤ (s.size : Int) := by omega
  have ha' : (at_ : Int) + (k : Int) = (a : Int) := by omega
  have hwa : IntKind.i64.wrap (a : Int) = (a : Int) := by rw [IntKind.wrap_i64]; omega
  have b1 : (a : Int) < (s.size : Int) := by omega
  have hP : P < w.heap.size := h.lt.1
  have hM : M < w.heap.size := h.lt.2
  have Ha := Lib.hid ha
  clear h hq ho hm hn hL ha
  go_enter Tryd.func58, Tryd.ntmps58
  go_wp2_with fail
  generalize hW : w.alloc (.cells #[.int .i64 0, .int .i64 0, .string ⟨#[]⟩, .string ⟨#[]⟩, .string ⟨#[]⟩, .int .i64 0] 32) = W1
  have G1 : Hid (Gr w W1) := Lib.hid (by rw [← hW]; exact (Gr.refl w).alloc _)
  have K1 : Hid (W1.heap[w.heap.size]? = some (.cells #[.int .i64 0, .int .i64 0, .string ⟨#[]⟩, .string ⟨#[]⟩, .string ⟨#[]⟩, .int .i64 0] 32 (0, 0))) := Lib.hid (by rw [← hW]; exact heap_alloc_new w _)
  clear hW
  obtain ⟨c0, c1, c2, c3, c4, c5, c6, c7, cf⟩ := (H.out.gr G1.out).cells
  go_quiet ((go_at_call 66; exact quiet_at (HQ.out _)))
  clear c0 c1 c2 c3 c4 c5 c6 c7 cf
  go_wp2_with fail
  obtain ⟨W2, hW2⟩ : ∃ W2, W2 = W1.drewN nq := ⟨_, rfl⟩
  rw [← hW2]
  have G2 : Hid (Gr w W2) := Lib.hid (by rw [hW2]; exact G1.out.drewN _)
  have K2 : Hid (W2.heap[w.heap.size]? = some (.cells #[.int .i64 0, .int .i64 0, .string ⟨#[]⟩, .string ⟨#[]⟩, .string ⟨#[]⟩, .int .i64 0] 32 (0, 0))) := Lib.hid (by rw [hW2]; exact K1.out)
  clear hW2 K1 G1
  obtain ⟨c0, c1, c2, c3, c4, c5, c6, c7, cf⟩ := (H.out.gr G2.out).cells
  obtain ⟨d0, d1, _, _, _, _, _, _, _⟩ := (H.out.gr (G2.out.alloc (.cells #[.pointer none, .int .i64 0, .int .u8 0] 80))).cells
  go_big_region
  clear c0 c1 c2 c3 c4 c5 c6 c7 cf d0 d1
  obtain ⟨X, hX⟩ : ∃ X, X = (W2.alloc (.cells #[.pointer (some ⟨P, 0, none⟩), .int .i64 (at_ : Int), .int .u8 (o.toNat : Int)] 80)).drew := ⟨_, rfl⟩
  rw [← hX]
  have GX : Hid (Gr W2 X) := Lib.hid (by rw [hX]; exact ((Gr.refl W2).alloc _).drew)
  have QX : Hid (Quo X W2.heap.size P at_ o) := Lib.hid (by rw [hX]; exact heap_alloc_new W2 _)
  have KX := Lib.hid ((GX.out.block _ (Array.getElem?_eq_some_iff.1 K2.out).1).trans K2.out)
  have SX := Lib.hid ((H.out.gr G2.out).gr GX.out)
  have hW2 : w.heap.size ≤ W2.heap.size := G2.out.size
  have BX := Lib.hid (But.of_gr (P := P) (Gr.trans G2.out GX.out))
  clear hX K2 GX
  obtain ⟨c0, c1, c2, c3, c4, c5, c6, c7, cf⟩ := SX.out.cells
  go_wp2_with fail
  have BS : But P X (X.setCell ⟨P, 1, none⟩ (.int .i64 (a : Int))) := But.set 1 _
  have S3 := Lib.hid (SX.out.setAt a)
  have B3 := Lib.hid (BX.out.trans BS)
  have Q3 := Lib.hid (QX.out.but BS (by omega))
  have K3 := Lib.hid ((BS.block _ (Array.getElem?_eq_some_iff.1 KX.out).1 (by simp; omega)).trans KX.out)
  clear BS SX BX QX KX c0 c1 c2 c3 c4 c5 c6 c7 cf
  refine (HT.out _ _ _ S3.out Q3.out (by omega)).mono ?_
  rintro e4 w4 ⟨q, hq, rfl, hS4, hb4⟩
  have Hq := Lib.hid hq
  have S4 := Lib.hid hS4
  have B4 := Lib.hid (B3.out.trans hb4)
  have K4 := Lib.hid ((hb4.block _ (Array.getElem?_eq_some_iff.1 K3.out).1 (by simp; omega)).trans K3.out)
  clear hq hS4 hb4 S3 B3 Q3 K3 HT
  go_wp2_with (refine wpList_store_tok rfl (.tmp 2) (.tmp 51) rfl (t := ⟨7, 0, q, ⟨#[]⟩, s.extract (m + 1) (m + 1 + n), 0⟩) rfl rfl K4.out rfl ?_)
  intro W5 hb5 hk5
  have B5 := Lib.hid hb5
  have K5 := Lib.hid hk5
  clear hb5 hk5
  go_wp2_with fail
  refine bodyPost_ret (results_tokB rfl rfl K5.out rfl) rfl ?_
  exact ⟨q, Hq.out, rfl, S4.out.but B5.out (by omega) (by omega), B4.out.late (Nat.le_refl _) B5.out⟩
end Go.Proofs.YtaoehbnjipegoaaDoor
