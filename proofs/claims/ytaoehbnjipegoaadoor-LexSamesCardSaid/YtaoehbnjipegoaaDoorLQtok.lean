/- A pattern, from its delimiter on. -/
import Derived.Test.YtaoehbnjipegoaaDoorLFlag
namespace Go.Proofs.YtaoehbnjipegoaaDoor
open Go.RowKit Go.Shelf
variable {w : World} {P M : Nat} {s : ByteArray} {at_ en : Nat} {tm : Bool} {tv bv ov : Value} {o e : UInt8} {f m : Nat}
theorem cellsOf {W : World} {g : Nat} {c : Array Value} {t : TypeId} (h : W.heap[g]? = some (.cells c t (0, 0))) : (∀ j, W.cell? ⟨g, j, none⟩ = c[j]?) ∧ ∀ j, W.frozen? ⟨g, j, none⟩ = false := by
  simp [World.cell?, World.frozen?, h]
set_option maxRecDepth 100000 in
set_option maxHeartbeats 2000000 in
theorem qtoken_pat {Q fr : Nat} (h : Sc w P M s at_ en tm tv bv ov) (hq : Quo w Q P fr o) (hQP : Q ≠ P) (hs : s.size ≤ 140737488351232) (he : (e.toNat : Int) = partI o.toNat) (he92 : e ≠ 92) (ho92 : o ≠ 92) (hm : endR s.data.toList o e f 0 (at_ + 1) = some m) (n : Nat) (hn : flagN s.data.toList (m + 1) [105, 109, 115, 120, 103] 0 = n) :
    Calls Tryd.prog 67 #[.pointer (some ⟨Q, 0, none⟩), .int .i64 7] w fun e w' => ∃ q : ByteArray, q.data.toList = wsL ((s.data.toList.drop (at_ + 1)).take (m - (at_ + 1))) ∧ e = .returned (Tok.val ⟨7, 0, q, ⟨#[]⟩, s.extract (m + 1) (m + 1 + n), 0⟩) ∧ Sc w' P M s (m + 1 + n) en tm tv bv ov ∧ But P w w' := by
  have H := Lib.hid h
  have HQ := Lib.hid hq
  have hle := endR_le hm
  rw [sizeL] at hle
  have hmb : at_ + 1 ≤ s.size := by omega
  have HPt := Lib.hid (fun (W : World) (hS : Sc W P M s (at_ + 1) en tm tv bv ov) (hq : Quo W Q P fr o) => part_m hS hq hQP hs he he92 ho92 hm)
  have HF := Lib.hid (fun (W : World) (hS : Sc W P M s (m + 1) en tm tv bv ov) (hq : Quo W Q P fr o) => flags_m hS hq hQP (by omega) hs ⟨#[105, 109, 115, 120, 103]⟩ (by decide))
  rw [show (⟨#[105, 109, 115, 120, 103]⟩ : ByteArray).data.toList = [105, 109, 115, 120, 103] from rfl, hn] at HF
  have hwl : (((s.data.toList.drop (at_ + 1)).take (m - (at_ + 1))).length) ≤ 140737488351232 := by rw [List.length_take, List.length_drop, sizeL]; omega
  have HWS := Lib.hid (fun w => ws_p ⟨((s.data.toList.drop (at_ + 1)).take (m - (at_ + 1))).toArray⟩ (by rw [← sizeL]; simpa using hwl) w)
  rw [show (⟨((s.data.toList.drop (at_ + 1)).take (m - (at_ + 1))).toArray⟩ : ByteArray).data.toList = (s.data.toList.drop (at_ + 1)).take (m - (at_ + 1)) from rfl] at HWS
  generalize (s.data.toList.drop (at_ + 1)).take (m - (at_ + 1)) = raw at *
  have hP : P < w.heap.size := h.lt.1
  have hM : M < w.heap.size := h.lt.2
  have hQ : Q < w.heap.size := (Array.getElem?_eq_some_iff.1 hq).1
  obtain ⟨a1, ha1⟩ : ∃ a1, a1 = at_ + 1 := ⟨_, rfl⟩
  rw [← ha1] at HPt
  have hw1 : IntKind.i64.wrap ((at_ : Int) + 1) = (a1 : Int) := by rw [IntKind.wrap_i64]; omega
  have hw2 : wrap64 ((at_ : Int) + 1) = (a1 : Int) := by simp only [wrap64]; omega
  have G0 : Gr w ((w.alloc (.cells #[.int .i64 0, .int .i64 0, .string ⟨#[]⟩, .string ⟨#[]⟩, .string ⟨#[]⟩, .int .i64 0] 32)).alloc (.cells #[.int .i64 7, .int .i64 0, .string ⟨#[]⟩, .string ⟨#[]⟩, .string ⟨#[]⟩, .int .i64 0] 32)) := ((Gr.refl w).alloc _).alloc _
  obtain ⟨c0, c1, c2, c3, c4, c5, c6, c7, cf⟩ := (h.gr G0).cells
  obtain ⟨q0, q1, q2⟩ := (hq.but (But.of_gr G0) hQP).cells
  clear h hq hle hwl hn hm he hmb ha1 G0
  go_enter Tryd.func67, Tryd.ntmps67
  go_wp2_with fail
  generalize hX : ((w.setCell ⟨P, 1, none⟩ (.int .i64 (a1 : Int))).alloc (.cells #[.int .i64 0, .int .i64 0, .string ⟨#[]⟩, .string ⟨#[]⟩, .string ⟨#[]⟩, .int .i64 0] 32)).alloc (.cells #[.int .i64 7, .int .i64 0, .string ⟨#[]⟩, .string ⟨#[]⟩, .string ⟨#[]⟩, .int .i64 0] 32) = X
  have hsX : (w.setCell ⟨P, 1, none⟩ (.int .i64 (a1 : Int))).heap.size = w.heap.size := by simp [World.setCell]
  have GX : Gr (w.setCell ⟨P, 1, none⟩ (.int .i64 (a1 : Int))) X := by rw [← hX]; exact ((Gr.refl _).alloc _).alloc _
  have SX := Lib.hid ((H.out.setAt a1).gr GX)
  have BX := Lib.hid ((But.set (P := P) (w := w) 1 (.int .i64 (a1 : Int))).trans (But.of_gr GX))
  have K4 : Hid (X.heap[w.heap.size]? = some (.cells #[.int .i64 0, .int .i64 0, .string ⟨#[]⟩, .string ⟨#[]⟩, .string ⟨#[]⟩, .int .i64 0] 32 (0, 0))) := Lib.hid (by
    rw [← hX, heap_alloc_old _ _ (by simp), ← hsX]; exact heap_alloc_new _ _)
  have K5 : Hid (X.heap[w.heap.size + 1]? = some (.cells #[.int .i64 7, .int .i64 0, .string ⟨#[]⟩, .string ⟨#[]⟩, .string ⟨#[]⟩, .int .i64 0] 32 (0, 0))) := Lib.hid (by
    rw [← hX]; have := heap_alloc_new ((w.setCell ⟨P, 1, none⟩ (.int .i64 (a1 : Int))).alloc (.cells #[.int .i64 0, .int .i64 0, .string ⟨#[]⟩, .string ⟨#[]⟩, .string ⟨#[]⟩, .int .i64 0] 32)) (.cells #[.int .i64 7, .int .i64 0, .string ⟨#[]⟩, .string ⟨#[]⟩, .string ⟨#[]⟩, .int .i64 0] 32); simpa using this)
  clear hX GX hsX c0 c1 c2 c3 c4 c5 c6 c7 cf q0 q1 q2 hw1 hw2
  refine (HPt.out _ SX.out (HQ.out.but BX.out hQP)).mono ?_
  rintro e2 w2 ⟨rfl, hS2, hb2⟩
  have S2 := Lib.hid hS2
  have B2 := Lib.hid (BX.out.trans hb2)
  have K42 := Lib.hid ((hb2.block _ (Array.getElem?_eq_some_iff.1 K4.out).1 (by simp; omega)).trans K4.out)
  have K52 := Lib.hid ((hb2.block _ (Array.getElem?_eq_some_iff.1 K5.out).1 (by simp; omega)).trans K5.out)
  clear hS2 hb2 SX BX K4 K5 HPt
  go_wp2_with fail
  refine (HWS.out _).mono ?_
  rintro e3 w3 ⟨q, hq, rfl, g3⟩
  have Hq := Lib.hid hq
  have S3 := Lib.hid (S2.out.gr g3)
  have B3 := Lib.hid (B2.out.trans (But.of_gr g3))
  have K43 := Lib.hid ((g3.block _ (Array.getElem?_eq_some_iff.1 K42.out).1).trans K42.out)
  have K53 := Lib.hid ((g3.block _ (Array.getElem?_eq_some_iff.1 K52.out).1).trans K52.out)
  clear hq g3 S2 B2 K42 K52 HWS
  have k2 : w3.cell? ⟨w.heap.size + 1, 2, none⟩ = some (.string ⟨#[]⟩) := by rw [(cellsOf K53.out).1]; rfl
  have kf : ∀ j, w3.frozen? ⟨w.heap.size + 1, j, none⟩ = false := (cellsOf K53.out).2
  go_wp2_with fail
  have BS : But (w.heap.size + 1) w3 (w3.setCell ⟨w.heap.size + 1, 2, none⟩ (.string q)) := But.set 2 _
  have S4 := Lib.hid (S3.out.but BS (by omega) (by omega))
  have B4 := Lib.hid (B3.out.late (by omega) BS)
  have K44 := Lib.hid ((BS.block _ (Array.getElem?_eq_some_iff.1 K43.out).1 (by simp)).trans K43.out)
  have K54 : Hid ((w3.setCell ⟨w.heap.size + 1, 2, none⟩ (.string q)).heap[w.heap.size + 1]? = some (.cells #[.int .i64 7, .int .i64 0, .string q, .string ⟨#[]⟩, .string ⟨#[]⟩, .int .i64 0] 32 (0, 0))) := Lib.hid (by
    have := K53.out
    simp [World.setCell, Array.getElem?_modify, this])
  clear BS S3 B3 K43 K53 k2 kf
  generalize w3.setCell ⟨w.heap.size + 1, 2, none⟩ (.string q) = X4 at *
  refine (HF.out _ S4.out (HQ.out.but B4.out hQP)).mono ?_
  rintro e5 w5 ⟨rfl, hS5, hb5⟩
  have S5 := Lib.hid hS5
  have B5 := Lib.hid (B4.out.trans hb5)
  have K45 := Lib.hid ((hb5.block _ (Array.getElem?_eq_some_iff.1 K44.out).1 (by simp; omega)).trans K44.out)
  have K55 := Lib.hid ((hb5.block _ (Array.getElem?_eq_some_iff.1 K54.out).1 (by simp; omega)).trans K54.out)
  clear hS5 hb5 S4 B4 K44 K54 HF
  have k2 : w5.cell? ⟨w.heap.size + 1, 4, none⟩ = some (.string ⟨#[]⟩) := by rw [(cellsOf K55.out).1]; rfl
  have kf : ∀ j, w5.frozen? ⟨w.heap.size + 1, j, none⟩ = false := (cellsOf K55.out).2
  have BS : But (w.heap.size + 1) w5 (w5.setCell ⟨w.heap.size + 1, 4, none⟩ (.string (s.extract (m + 1) (m + 1 + n)))) := But.set 4 _
  have S6 := Lib.hid (S5.out.but BS (by omega) (by omega))
  have B6 := Lib.hid (B5.out.late (by omega) BS)
  have K46 := Lib.hid ((BS.block _ (Array.getElem?_eq_some_iff.1 K45.out).1 (by simp)).trans K45.out)
  have K56 : Hid ((w5.setCell ⟨w.heap.size + 1, 4, none⟩ (.string (s.extract (m + 1) (m + 1 + n)))).heap[w.heap.size + 1]? = some (.cells #[.int .i64 7, .int .i64 0, .string q, .string ⟨#[]⟩, .string (s.extract (m + 1) (m + 1 + n)), .int .i64 0] 32 (0, 0))) := Lib.hid (by
    have := K55.out
    simp [World.setCell, Array.getElem?_modify, this])
  clear BS S5 B5 K45 K55
  obtain ⟨more, hmore⟩ : ∃ more, s.extract (m + 1) (m + 1 + n) = more := ⟨_, rfl⟩
  rw [hmore] at S6 B6 K46 K56 ⊢
  have Hmore := Lib.hid hmore
  clear hmore
  go_wp2_with (first | (refine wpList_load_row rfl 32 (.tmp 5) rfl (w.heap.size + 1) rfl 32 #[.int .i64 7, .int .i64 0, .string q, .string ⟨#[]⟩, .string more, .int .i64 0] (0, 0) _ K56.out Tryd.underlying32 rfl (by rw [tokInfo]; rfl) ?_) | (refine wpList_store_tok rfl (.tmp 4) (.tmp 98) rfl (t := ⟨7, 0, q, ⟨#[]⟩, more, 0⟩) rfl rfl K46.out rfl ?_))
  intro W7 hb7 hk7
  have B7 := Lib.hid hb7
  have K7 := Lib.hid hk7
  clear hb7 hk7
  go_wp2_with fail
  refine bodyPost_ret (results_tok rfl rfl K7.out) rfl ?_
  rw [Hmore.out]
  exact ⟨q, Hq.out, rfl, S6.out.but B7.out (by omega) (by omega), B6.out.late (Nat.le_refl _) B7.out⟩
end Go.Proofs.YtaoehbnjipegoaaDoor
