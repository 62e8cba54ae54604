/- GQtok -/
import Derived.Test.YthmopindibdhnaaDoorM12
namespace Go.Proofs.YthmopindibdhnaaDoor.G
open Go.RowKit Go.Shelf Go.Maps
variable {w w' : World} {P : Nat} {M : GoMap} {s : ByteArray} {at_ en : Nat} {tm : Bool} {tv bv ov : Value} {o : UInt8}
theorem Quo_any {Q fr g : Nat} (h : Quo w Q P fr o) (k : But g w w') (hne : Q ≠ g) : Quo w' Q P fr o := by
  unfold Quo at *
  rw [k.block _ (Array.getElem?_eq_some_iff.1 h).1 (fun e => hne (by injection e))]; exact h
theorem ba_size (l : List UInt8) : (⟨l.toArray⟩ : ByteArray).size = l.length := by rw [← sizeL]
theorem plain_l (l : List UInt8) (o : UInt8) (h : l.length ≤ 100000) (w : World) : Calls Tryd.prog 66 #[.string ⟨l.toArray⟩, .int .u8 (o.toNat : Int)] w fun e w' => e = .returned (.string ⟨(plL o l).toArray⟩) ∧ Gr w w' := plain_g ⟨l.toArray⟩ o (by rw [ba_size]; omega) w
theorem inter_l (l : List UInt8) (o : UInt8) (h : l.length ≤ 100000) (w : World) : Calls Tryd.prog 56 #[.string ⟨l.toArray⟩, .int .u8 (o.toNat : Int)] w fun e w' => e = .returned (.string ⟨(inL o l).toArray⟩) ∧ Gr w w' := inter_g ⟨l.toArray⟩ o (by rw [ba_size]; omega) w
theorem ws_l (l : List UInt8) (h : l.length ≤ 100000) (w : World) : Calls Tryd.prog 69 #[.string ⟨l.toArray⟩] w fun e w' => e = .returned (.string ⟨(wsL l).toArray⟩) ∧ Gr w w' := ws_g ⟨l.toArray⟩ (by rw [ba_size]; omega) w
theorem second_ok {Q fr : Nat} (h : Sc w P M s at_ en tm tv bv ov) (hq : Quo w Q P fr o) (hQP : Q ≠ P) (hQM : Q ≠ M.blk) (hs : s.size ≤ 4000) (hJ : JOk s.data.toList M.J) (ha : at_ ≤ s.data.toList.length) (hfr : fr < s.size) (hd : delimB o.toNat = true) {o2 : UInt8} {raw : List UInt8} {R R2 : Src} (hR : R = rest s.data.toList M.J at_) (hX : secondS o R = some (o2, raw, R2)) :
    Calls Tryd.prog 71 #[.pointer (some ⟨Q, 0, none⟩)] w fun e w' => ∃ b, e = .returned (.string ⟨raw.toArray⟩) ∧ Sc w' P M s b en tm tv bv ov ∧ Quo w' Q P fr o2 ∧ Bt P Q w w' ∧ R2 = rest s.data.toList M.J b ∧ at_ < b ∧ b ≤ s.data.toList.length ∧ raw.length ≤ b :=
  (second_g h hq hQP hQM hs hJ ha hfr hd _ rfl).mono fun e w' k => by rw [← hR, hX] at k; exact k
theorem second_no {Q fr : Nat} (h : Sc w P M s at_ en tm tv bv ov) (hq : Quo w Q P fr o) (hQP : Q ≠ P) (hQM : Q ≠ M.blk) (hs : s.size ≤ 4000) (hJ : JOk s.data.toList M.J) (ha : at_ ≤ s.data.toList.length) (hfr : fr < s.size) (hd : delimB o.toNat = true) {R : Src} (hR : R = rest s.data.toList M.J at_) (hX : secondS o R = none) :
    Calls Tryd.prog 71 #[.pointer (some ⟨Q, 0, none⟩)] w fun e w' => Bad s e ∧ Bt P Q w w' :=
  (second_g h hq hQP hQM hs hJ ha hfr hd _ rfl).mono fun e w' k => by rw [← hR, hX] at k; exact k
set_option maxRecDepth 100000 in
set_option maxHeartbeats 2000000 in
theorem qtok_no {Q fr : Nat} (h : Sc w P M s at_ en tm tv bv ov) (hq : Quo w Q P fr o) (hQP : Q ≠ P) (_hQM : Q ≠ M.blk) (hs : s.size ≤ 4000) (hJ : JOk s.data.toList M.J) (ha : at_ < s.data.toList.length) (hfr : fr < s.size) (hd : delimB o.toNat = true) (k : Int) (hX : partS o (partU o) 0 (rest s.data.toList M.J (at_ + 1)) = none) :
    Calls Tryd.prog 51 #[.pointer (some ⟨Q, 0, none⟩), .int .i64 k] w fun e w' => Bad s e ∧ Bt P Q w w' := by
  have H := Lib.hid h
  have HQ := Lib.hid hq
  have h47 : s.size ≤ 140737488351232 := by omega
  have hat : (at_ : Int) + 1 ≤ 4000 := by rw [sizeL] at ha; omega
  have HPt := Lib.hid (fun (W : World) (hS : Sc W P M s (at_ + 1) en tm tv bv ov) (hq : Quo W Q P fr o) => part_no hS hq hQP hs hJ (by omega) hfr hd hX)
  clear hX hJ ha hfr hd
  have hP : P < w.heap.size := h.lt.1
  have hM : M.blk < w.heap.size := h.lt.2
  have hQ : Q < w.heap.size := (Array.getElem?_eq_some_iff.1 hq).1
  obtain ⟨a1, ha1⟩ : ∃ a1, a1 = at_ + 1 := ⟨_, rfl⟩
  have hw1 : IntKind.i64.wrap ((at_ : Int) + 1) = (a1 : Int) := by rw [IntKind.wrap_i64]; omega
  have hw2 : wrap64 ((at_ : Int) + 1) = (a1 : Int) := by simp only [wrap64]; omega
  have G0 : Gr w ((w.alloc (.cells #[.int .i64 0, .int .i64 0, .string ⟨#[]⟩, .string ⟨#[]⟩, .string ⟨#[]⟩, .int .i64 0] 32)).alloc (.cells #[.int .i64 k, .int .i64 0, .string ⟨#[]⟩, .string ⟨#[]⟩, .string ⟨#[]⟩, .int .i64 0] 32)) := ((Gr.refl w).alloc _).alloc _
  obtain ⟨c0, c1, c2, c3, c4, c5, c6, c7, cf⟩ := (h.gr G0).cells
  obtain ⟨q0, q1, q2⟩ := (hq.but (But.of_gr G0) hQP).cells
  rw [← ha1] at HPt
  clear h hq ha1 G0
  go_enter Tryd.func51, Tryd.ntmps51
  go_wp2_with fail
  generalize hX : ((w.setCell ⟨P, 1, none⟩ (.int .i64 (a1 : Int))).alloc (.cells #[.int .i64 0, .int .i64 0, .string ⟨#[]⟩, .string ⟨#[]⟩, .string ⟨#[]⟩, .int .i64 0] 32)).alloc (.cells #[.int .i64 k, .int .i64 0, .string ⟨#[]⟩, .string ⟨#[]⟩, .string ⟨#[]⟩, .int .i64 0] 32) = X1
  have hsX : (w.setCell ⟨P, 1, none⟩ (.int .i64 (a1 : Int))).heap.size = w.heap.size := by simp [World.setCell]
  have GX : Gr (w.setCell ⟨P, 1, none⟩ (.int .i64 (a1 : Int))) X1 := by rw [← hX]; exact ((Gr.refl _).alloc _).alloc _
  have SS1 := Lib.hid ((H.out.setAt a1).gr GX)
  have BX := Lib.hid ((But.set (P := P) (w := w) 1 (.int .i64 (a1 : Int))).trans (But.of_gr GX))
  have QQ1 := Lib.hid (HQ.out.but BX.out hQP)
  have BB1 : Hid (Bt P Q w X1) := Lib.hid (Bt.of_but BX.out)
  have KR1 : Hid (X1.heap[w.heap.size]? = some (.cells #[.int .i64 0, .int .i64 0, .string ⟨#[]⟩, .string ⟨#[]⟩, .string ⟨#[]⟩, .int .i64 0] 32 (0, 0))) := Lib.hid (by
    rw [← hX, heap_alloc_old _ _ (by simp), ← hsX]; exact heap_alloc_new _ _)
  have KT1 : Hid (X1.heap[w.heap.size + 1]? = some (.cells #[.int .i64 k, .int .i64 0, .string ⟨#[]⟩, .string ⟨#[]⟩, .string ⟨#[]⟩, .int .i64 0] 32 (0, 0))) := Lib.hid (by
    rw [← hX]; have := heap_alloc_new ((w.setCell ⟨P, 1, none⟩ (.int .i64 (a1 : Int))).alloc (.cells #[.int .i64 0, .int .i64 0, .string ⟨#[]⟩, .string ⟨#[]⟩, .string ⟨#[]⟩, .int .i64 0] 32)) (.cells #[.int .i64 k, .int .i64 0, .string ⟨#[]⟩, .string ⟨#[]⟩, .string ⟨#[]⟩, .int .i64 0] 32); simpa using this)
  clear hX GX hsX c0 c1 c2 c3 c4 c5 c6 c7 cf q0 q1 q2 hw1 hw2 BX
  refine (HPt.out _ SS1.out QQ1.out).mono ?_
  rintro e2 w2 ⟨⟨q, hq, rfl⟩, hb⟩
  go_wp2_with fail
  exact ⟨rfl, ⟨q, hq, rfl⟩, BB1.out.trans (Bt.of_but hb)⟩
set_option maxRecDepth 100000 in
set_option maxHeartbeats 2000000 in
theorem qtok_4 {Q fr : Nat} (h : Sc w P M s at_ en tm tv bv ov) (hq : Quo w Q P fr o) (hQP : Q ≠ P) (_hQM : Q ≠ M.blk) (hs : s.size ≤ 4000) (hJ : JOk s.data.toList M.J) (ha : at_ < s.data.toList.length) (hfr : fr < s.size) (hd : delimB o.toNat = true) {raw : List UInt8} {R : Src} (hX : partS o (partU o) 0 (rest s.data.toList M.J (at_ + 1)) = some (raw, R)) :
    Calls Tryd.prog 51 #[.pointer (some ⟨Q, 0, none⟩), .int .i64 4] w fun e w' => ∃ b, e = .returned (Tok.val ⟨4, 0, ⟨(plL o raw).toArray⟩, ⟨#[]⟩, ⟨#[]⟩, 0⟩) ∧ Sc w' P M s b en tm tv bv ov ∧ Bt P Q w w' ∧ R = rest s.data.toList M.J b ∧ at_ < b ∧ b ≤ s.data.toList.length := by
  have H := Lib.hid h
  have HQ := Lib.hid hq
  have h47 : s.size ≤ 140737488351232 := by omega
  have hat : (at_ : Int) + 1 ≤ 4000 := by rw [sizeL] at ha; omega
  have HPt := Lib.hid (fun (W : World) (hS : Sc W P M s (at_ + 1) en tm tv bv ov) (hq : Quo W Q P fr o) => part_ok hS hq hQP hs hJ (by omega) hfr hd hX)
  clear hX hJ ha hfr hd
  have hP : P < w.heap.size := h.lt.1
  have hM : M.blk < w.heap.size := h.lt.2
  have hQ : Q < w.heap.size := (Array.getElem?_eq_some_iff.1 hq).1
  obtain ⟨a1, ha1⟩ : ∃ a1, a1 = at_ + 1 := ⟨_, rfl⟩
  have hw1 : IntKind.i64.wrap ((at_ : Int) + 1) = (a1 : Int) := by rw [IntKind.wrap_i64]; omega
  have hw2 : wrap64 ((at_ : Int) + 1) = (a1 : Int) := by simp only [wrap64]; omega
  have G0 : Gr w ((w.alloc (.cells #[.int .i64 0, .int .i64 0, .string ⟨#[]⟩, .string ⟨#[]⟩, .string ⟨#[]⟩, .int .i64 0] 32)).alloc (.cells #[.int .i64 4, .int .i64 0, .string ⟨#[]⟩, .string ⟨#[]⟩, .string ⟨#[]⟩, .int .i64 0] 32)) := ((Gr.refl w).alloc _).alloc _
  obtain ⟨c0, c1, c2, c3, c4, c5, c6, c7, cf⟩ := (h.gr G0).cells
  obtain ⟨q0, q1, q2⟩ := (hq.but (But.of_gr G0) hQP).cells
  rw [← ha1] at HPt
  have HA1 := Lib.hid ha1
  clear h hq ha1 G0
  go_enter Tryd.func51, Tryd.ntmps51
  go_wp2_with fail
  generalize hX : ((w.setCell ⟨P, 1, none⟩ (.int .i64 (a1 : Int))).alloc (.cells #[.int .i64 0, .int .i64 0, .string ⟨#[]⟩, .string ⟨#[]⟩, .string ⟨#[]⟩, .int .i64 0] 32)).alloc (.cells #[.int .i64 4, .int .i64 0, .string ⟨#[]⟩, .string ⟨#[]⟩, .string ⟨#[]⟩, .int .i64 0] 32) = X1
  have hsX : (w.setCell ⟨P, 1, none⟩ (.int .i64 (a1 : Int))).heap.size = w.heap.size := by simp [World.setCell]
  have GX : Gr (w.setCell ⟨P, 1, none⟩ (.int .i64 (a1 : Int))) X1 := by rw [← hX]; exact ((Gr.refl _).alloc _).alloc _
  have SS1 := Lib.hid ((H.out.setAt a1).gr GX)
  have BX := Lib.hid ((But.set (P := P) (w := w) 1 (.int .i64 (a1 : Int))).trans (But.of_gr GX))
  have QQ1 := Lib.hid (HQ.out.but BX.out hQP)
  have BB1 : Hid (Bt P Q w X1) := Lib.hid (Bt.of_but BX.out)
  have KR1 : Hid (X1.heap[w.heap.size]? = some (.cells #[.int .i64 0, .int .i64 0, .string ⟨#[]⟩, .string ⟨#[]⟩, .string ⟨#[]⟩, .int .i64 0] 32 (0, 0))) := Lib.hid (by
    rw [← hX, heap_alloc_old _ _ (by simp), ← hsX]; exact heap_alloc_new _ _)
  have KT1 : Hid (X1.heap[w.heap.size + 1]? = some (.cells #[.int .i64 4, .int .i64 0, .string ⟨#[]⟩, .string ⟨#[]⟩, .string ⟨#[]⟩, .int .i64 0] 32 (0, 0))) := Lib.hid (by
    rw [← hX]; have := heap_alloc_new ((w.setCell ⟨P, 1, none⟩ (.int .i64 (a1 : Int))).alloc (.cells #[.int .i64 0, .int .i64 0, .string ⟨#[]⟩, .string ⟨#[]⟩, .string ⟨#[]⟩, .int .i64 0] 32)) (.cells #[.int .i64 4, .int .i64 0, .string ⟨#[]⟩, .string ⟨#[]⟩, .string ⟨#[]⟩, .int .i64 0] 32); simpa using this)
  clear hX GX hsX c0 c1 c2 c3 c4 c5 c6 c7 cf q0 q1 q2 hw1 hw2 BX
  refine (HPt.out _ SS1.out QQ1.out).mono ?_
  rintro e2 w2 ⟨b1, rfl, hS, hb, hR, hab, hbl, hlen⟩
  have SS2 := Lib.hid hS
  have QQ2 := Lib.hid (QQ1.out.but hb hQP)
  have BB2 := Lib.hid (BB1.out.trans (Bt.of_but hb))
  have KR2 := Lib.hid ((hb.block _ (Array.getElem?_eq_some_iff.1 KR1.out).1 (by simp; omega)).trans KR1.out)
  have KT2 := Lib.hid ((hb.block _ (Array.getElem?_eq_some_iff.1 KT1.out).1 (by simp; omega)).trans KT1.out)
  clear hS hb SS1 QQ1 BB1 KR1 KT1 HPt
  have HR := Lib.hid hR
  have Hab := Lib.hid hab
  have Hbl := Lib.hid hbl
  have Hlen : Hid (raw.length ≤ 4000) := Lib.hid (by rw [sizeL] at hbl; omega)
  have Ha1 : Hid (at_ < b1) := Lib.hid (by have := HA1.out; omega)
  clear hR hab hbl hlen
  have HT := Lib.hid (fun w => plain_l raw o (by have := Hlen.out; omega) w)
  obtain ⟨q0, q1, q2⟩ := Quo.cells QQ2.out
  go_wp2_with fail
  refine (HT.out _).mono ?_
  rintro e3 w3 ⟨rfl, g⟩
  have SS3 := Lib.hid (SS2.out.gr g)
  have QQ3 := Lib.hid (Quo_gr QQ2.out g)
  have BB3 := Lib.hid (BB2.out.trans (Bt.of_gr g))
  have KR3 := Lib.hid ((g.block _ (Array.getElem?_eq_some_iff.1 KR2.out).1).trans KR2.out)
  have KT3 := Lib.hid ((g.block _ (Array.getElem?_eq_some_iff.1 KT2.out).1).trans KT2.out)
  clear g SS2 QQ2 BB2 KR2 KT2 HT q0 q1 q2
  have k2 : w3.cell? ⟨w.heap.size + 1, 2, none⟩ = some (.string ⟨#[]⟩) := by rw [(cellsOf KT3.out).1]; rfl
  have kf : ∀ j, w3.frozen? ⟨w.heap.size + 1, j, none⟩ = false := (cellsOf KT3.out).2
  have BS : But (w.heap.size + 1) w3 (w3.setCell ⟨w.heap.size + 1, 2, none⟩ (.string ⟨(plL o raw).toArray⟩)) := But.set 2 _
  have SS4 := Lib.hid (SS3.out.but BS (by omega) (by omega))
  have QQ4 := Lib.hid (Quo_any QQ3.out BS (by omega))
  have BB4 := Lib.hid (BB3.out.late (by omega) BS)
  have KR4 := Lib.hid ((BS.block _ (Array.getElem?_eq_some_iff.1 KR3.out).1 (by simp)).trans KR3.out)
  have KT4 : Hid ((w3.setCell ⟨w.heap.size + 1, 2, none⟩ (.string ⟨(plL o raw).toArray⟩)).heap[w.heap.size + 1]? = some (.cells #[.int .i64 4, .int .i64 0, .string ⟨(plL o raw).toArray⟩, .string ⟨#[]⟩, .string ⟨#[]⟩, .int .i64 0] 32 (0, 0))) := Lib.hid (by
    have := KT3.out
    simp [World.setCell, Array.getElem?_modify, this])
  clear BS SS3 QQ3 BB3 KR3 KT3
  go_wp2_with (first | (refine wpList_load_row rfl 32 (.tmp 5) rfl (w.heap.size + 1) rfl 32 #[.int .i64 4, .int .i64 0, .string ⟨(plL o raw).toArray⟩, .string ⟨#[]⟩, .string ⟨#[]⟩, .int .i64 0] (0, 0) _ KT4.out Tryd.underlying32 rfl (by rw [tokInfo]; rfl) ?_) | (refine wpList_store_tok rfl (.tmp 4) (.tmp 98) rfl (t := ⟨4, 0, ⟨(plL o raw).toArray⟩, ⟨#[]⟩, ⟨#[]⟩, 0⟩) rfl rfl KR4.out rfl ?_))
  intro W7 hb7 hk7
  have B7 := Lib.hid hb7
  have K7 := Lib.hid hk7
  clear hb7 hk7
  go_wp2_with fail
  refine bodyPost_ret (results_tok rfl rfl K7.out) rfl ?_
  exact ⟨b1, rfl, SS4.out.but B7.out (by omega) (by omega), BB4.out.late (Nat.le_refl _) B7.out, HR.out, Ha1.out, Hbl.out⟩
set_option maxRecDepth 100000 in
set_option maxHeartbeats 2000000 in
theorem qtok_5 {Q fr : Nat} (h : Sc w P M s at_ en tm tv bv ov) (hq : Quo w Q P fr o) (hQP : Q ≠ P) (_hQM : Q ≠ M.blk) (hs : s.size ≤ 4000) (hJ : JOk s.data.toList M.J) (ha : at_ < s.data.toList.length) (hfr : fr < s.size) (hd : delimB o.toNat = true) {raw : List UInt8} {R : Src} (hX : partS o (partU o) 0 (rest s.data.toList M.J (at_ + 1)) = some (raw, R)) :
    Calls Tryd.prog 51 #[.pointer (some ⟨Q, 0, none⟩), .int .i64 5] w fun e w' => ∃ b, e = .returned (Tok.val ⟨5, 0, ⟨(inL o raw).toArray⟩, ⟨#[]⟩, ⟨#[]⟩, 0⟩) ∧ Sc w' P M s b en tm tv bv ov ∧ Bt P Q w w' ∧ R = rest s.data.toList M.J b ∧ at_ < b ∧ b ≤ s.data.toList.length := by
  have H := Lib.hid h
  have HQ := Lib.hid hq
  have h47 : s.size ≤ 140737488351232 := by omega
  have hat : (at_ : Int) + 1 ≤ 4000 := by rw [sizeL] at ha; omega
  have HPt := Lib.hid (fun (W : World) (hS : Sc W P M s (at_ + 1) en tm tv bv ov) (hq : Quo W Q P fr o) => part_ok hS hq hQP hs hJ (by omega) hfr hd hX)
  clear hX hJ ha hfr hd
  have hP : P < w.heap.size := h.lt.1
  have hM : M.blk < w.heap.size := h.lt.2
  have hQ : Q < w.heap.size := (Array.getElem?_eq_some_iff.1 hq).1
  obtain ⟨a1, ha1⟩ : ∃ a1, a1 = at_ + 1 := ⟨_, rfl⟩
  have hw1 : IntKind.i64.wrap ((at_ : Int) + 1) = (a1 : Int) := by rw [IntKind.wrap_i64]; omega
  have hw2 : wrap64 ((at_ : Int) + 1) = (a1 : Int) := by simp only [wrap64]; omega
  have G0 : Gr w ((w.alloc (.cells #[.int .i64 0, .int .i64 0, .string ⟨#[]⟩, .string ⟨#[]⟩, .string ⟨#[]⟩, .int .i64 0] 32)).alloc (.cells #[.int .i64 5, .int .i64 0, .string ⟨#[]⟩, .string ⟨#[]⟩, .string ⟨#[]⟩, .int .i64 0] 32)) := ((Gr.refl w).alloc _).alloc _
  obtain ⟨c0, c1, c2, c3, c4, c5, c6, c7, cf⟩ := (h.gr G0).cells
  obtain ⟨q0, q1, q2⟩ := (hq.but (But.of_gr G0) hQP).cells
  rw [← ha1] at HPt
  have HA1 := Lib.hid ha1
  clear h hq ha1 G0
  go_enter Tryd.func51, Tryd.ntmps51
  go_wp2_with fail
  generalize hX : ((w.setCell ⟨P, 1, none⟩ (.int .i64 (a1 : Int))).alloc (.cells #[.int .i64 0, .int .i64 0, .string ⟨#[]⟩, .string ⟨#[]⟩, .string ⟨#[]⟩, .int .i64 0] 32)).alloc (.cells #[.int .i64 5, .int .i64 0, .string ⟨#[]⟩, .string ⟨#[]⟩, .string ⟨#[]⟩, .int .i64 0] 32) = X1
  have hsX : (w.setCell ⟨P, 1, none⟩ (.int .i64 (a1 : Int))).heap.size = w.heap.size := by simp [World.setCell]
  have GX : Gr (w.setCell ⟨P, 1, none⟩ (.int .i64 (a1 : Int))) X1 := by rw [← hX]; exact ((Gr.refl _).alloc _).alloc _
  have SS1 := Lib.hid ((H.out.setAt a1).gr GX)
  have BX := Lib.hid ((But.set (P := P) (w := w) 1 (.int .i64 (a1 : Int))).trans (But.of_gr GX))
  have QQ1 := Lib.hid (HQ.out.but BX.out hQP)
  have BB1 : Hid (Bt P Q w X1) := Lib.hid (Bt.of_but BX.out)
  have KR1 : Hid (X1.heap[w.heap.size]? = some (.cells #[.int .i64 0, .int .i64 0, .string ⟨#[]⟩, .string ⟨#[]⟩, .string ⟨#[]⟩, .int .i64 0] 32 (0, 0))) := Lib.hid (by
    rw [← hX, heap_alloc_old _ _ (by simp), ← hsX]; exact heap_alloc_new _ _)
  have KT1 : Hid (X1.heap[w.heap.size + 1]? = some (.cells #[.int .i64 5, .int .i64 0, .string ⟨#[]⟩, .string ⟨#[]⟩, .string ⟨#[]⟩, .int .i64 0] 32 (0, 0))) := Lib.hid (by
    rw [← hX]; have := heap_alloc_new ((w.setCell ⟨P, 1, none⟩ (.int .i64 (a1 : Int))).alloc (.cells #[.int .i64 0, .int .i64 0, .string ⟨#[]⟩, .string ⟨#[]⟩, .string ⟨#[]⟩, .int .i64 0] 32)) (.cells #[.int .i64 5, .int .i64 0, .string ⟨#[]⟩, .string ⟨#[]⟩, .string ⟨#[]⟩, .int .i64 0] 32); simpa using this)
  clear hX GX hsX c0 c1 c2 c3 c4 c5 c6 c7 cf q0 q1 q2 hw1 hw2 BX
  refine (HPt.out _ SS1.out QQ1.out).mono ?_
  rintro e2 w2 ⟨b1, rfl, hS, hb, hR, hab, hbl, hlen⟩
  have SS2 := Lib.hid hS
  have QQ2 := Lib.hid (QQ1.out.but hb hQP)
  have BB2 := Lib.hid (BB1.out.trans (Bt.of_but hb))
  have KR2 := Lib.hid ((hb.block _ (Array.getElem?_eq_some_iff.1 KR1.out).1 (by simp; omega)).trans KR1.out)
  have KT2 := Lib.hid ((hb.block _ (Array.getElem?_eq_some_iff.1 KT1.out).1 (by simp; omega)).trans KT1.out)
  clear hS hb SS1 QQ1 BB1 KR1 KT1 HPt
  have HR := Lib.hid hR
  have Hab := Lib.hid hab
  have Hbl := Lib.hid hbl
  have Hlen : Hid (raw.length ≤ 4000) := Lib.hid (by rw [sizeL] at hbl; omega)
  have Ha1 : Hid (at_ < b1) := Lib.hid (by have := HA1.out; omega)
  clear hR hab hbl hlen
  have HT := Lib.hid (fun w => inter_l raw o (by have := Hlen.out; omega) w)
  obtain ⟨q0, q1, q2⟩ := Quo.cells QQ2.out
  go_wp2_with fail
  refine (HT.out _).mono ?_
  rintro e3 w3 ⟨rfl, g⟩
  have SS3 := Lib.hid (SS2.out.gr g)
  have QQ3 := Lib.hid (Quo_gr QQ2.out g)
  have BB3 := Lib.hid (BB2.out.trans (Bt.of_gr g))
  have KR3 := Lib.hid ((g.block _ (Array.getElem?_eq_some_iff.1 KR2.out).1).trans KR2.out)
  have KT3 := Lib.hid ((g.block _ (Array.getElem?_eq_some_iff.1 KT2.out).1).trans KT2.out)
  clear g SS2 QQ2 BB2 KR2 KT2 HT q0 q1 q2
  have k2 : w3.cell? ⟨w.heap.size + 1, 2, none⟩ = some (.string ⟨#[]⟩) := by rw [(cellsOf KT3.out).1]; rfl
  have kf : ∀ j, w3.frozen? ⟨w.heap.size + 1, j, none⟩ = false := (cellsOf KT3.out).2
  have BS : But (w.heap.size + 1) w3 (w3.setCell ⟨w.heap.size + 1, 2, none⟩ (.string ⟨(inL o raw).toArray⟩)) := But.set 2 _
  have SS4 := Lib.hid (SS3.out.but BS (by omega) (by omega))
  have QQ4 := Lib.hid (Quo_any QQ3.out BS (by omega))
  have BB4 := Lib.hid (BB3.out.late (by omega) BS)
  have KR4 := Lib.hid ((BS.block _ (Array.getElem?_eq_some_iff.1 KR3.out).1 (by simp)).trans KR3.out)
  have KT4 : Hid ((w3.setCell ⟨w.heap.size + 1, 2, none⟩ (.string ⟨(inL o raw).toArray⟩)).heap[w.heap.size + 1]? = some (.cells #[.int .i64 5, .int .i64 0, .string ⟨(inL o raw).toArray⟩, .string ⟨#[]⟩, .string ⟨#[]⟩, .int .i64 0] 32 (0, 0))) := Lib.hid (by
    have := KT3.out
    simp [World.setCell, Array.getElem?_modify, this])
  clear BS SS3 QQ3 BB3 KR3 KT3
  go_wp2_with (first | (refine wpList_load_row rfl 32 (.tmp 5) rfl (w.heap.size + 1) rfl 32 #[.int .i64 5, .int .i64 0, .string ⟨(inL o raw).toArray⟩, .string ⟨#[]⟩, .string ⟨#[]⟩, .int .i64 0] (0, 0) _ KT4.out Tryd.underlying32 rfl (by rw [tokInfo]; rfl) ?_) | (refine wpList_store_tok rfl (.tmp 4) (.tmp 98) rfl (t := ⟨5, 0, ⟨(inL o raw).toArray⟩, ⟨#[]⟩, ⟨#[]⟩, 0⟩) rfl rfl KR4.out rfl ?_))
  intro W7 hb7 hk7
  have B7 := Lib.hid hb7
  have K7 := Lib.hid hk7
  clear hb7 hk7
  go_wp2_with fail
  refine bodyPost_ret (results_tok rfl rfl K7.out) rfl ?_
  exact ⟨b1, rfl, SS4.out.but B7.out (by omega) (by omega), BB4.out.late (Nat.le_refl _) B7.out, HR.out, Ha1.out, Hbl.out⟩
set_option maxRecDepth 100000 in
set_option maxHeartbeats 2000000 in
theorem qtok_7 {Q fr : Nat} (h : Sc w P M s at_ en tm tv bv ov) (hq : Quo w Q P fr o) (hQP : Q ≠ P) (_hQM : Q ≠ M.blk) (hs : s.size ≤ 4000) (hJ : JOk s.data.toList M.J) (ha : at_ < s.data.toList.length) (hfr : fr < s.size) (hd : delimB o.toNat = true) {raw : List UInt8} {R : Src} (hX : partS o (partU o) 0 (rest s.data.toList M.J (at_ + 1)) = some (raw, R)) :
    Calls Tryd.prog 51 #[.pointer (some ⟨Q, 0, none⟩), .int .i64 7] w fun e w' => ∃ b, e = .returned (Tok.val ⟨7, 0, ⟨(wsL raw).toArray⟩, ⟨#[]⟩, ⟨((byt R).take (flagS R flagsP)).toArray⟩, 0⟩) ∧ Sc w' P M s b en tm tv bv ov ∧ Bt P Q w w' ∧ R.drop (flagS R flagsP) = rest s.data.toList M.J b ∧ at_ < b ∧ b ≤ s.data.toList.length := by
  have H := Lib.hid h
  have HQ := Lib.hid hq
  have h47 : s.size ≤ 140737488351232 := by omega
  have hat : (at_ : Int) + 1 ≤ 4000 := by rw [sizeL] at ha; omega
  have HPt := Lib.hid (fun (W : World) (hS : Sc W P M s (at_ + 1) en tm tv bv ov) (hq : Quo W Q P fr o) => part_ok hS hq hQP hs hJ (by omega) hfr hd hX)
  have HJ := Lib.hid hJ
  clear hX hJ ha hfr hd
  have hP : P < w.heap.size := h.lt.1
  have hM : M.blk < w.heap.size := h.lt.2
  have hQ : Q < w.heap.size := (Array.getElem?_eq_some_iff.1 hq).1
  obtain ⟨a1, ha1⟩ : ∃ a1, a1 = at_ + 1 := ⟨_, rfl⟩
  have hw1 : IntKind.i64.wrap ((at_ : Int) + 1) = (a1 : Int) := by rw [IntKind.wrap_i64]; omega
  have hw2 : wrap64 ((at_ : Int) + 1) = (a1 : Int) := by simp only [wrap64]; omega
  have G0 : Gr w ((w.alloc (.cells #[.int .i64 0, .int .i64 0, .string ⟨#[]⟩, .string ⟨#[]⟩, .string ⟨#[]⟩, .int .i64 0] 32)).alloc (.cells #[.int .i64 7, .int .i64 0, .string ⟨#[]⟩, .string ⟨#[]⟩, .string ⟨#[]⟩, .int .i64 0] 32)) := ((Gr.refl w).alloc _).alloc _
  obtain ⟨c0, c1, c2, c3, c4, c5, c6, c7, cf⟩ := (h.gr G0).cells
  obtain ⟨q0, q1, q2⟩ := (hq.but (But.of_gr G0) hQP).cells
  rw [← ha1] at HPt
  have HA1 := Lib.hid ha1
  clear h hq ha1 G0
  go_enter Tryd.func51, Tryd.ntmps51
  go_wp2_with fail
  generalize hX : ((w.setCell ⟨P, 1, none⟩ (.int .i64 (a1 : Int))).alloc (.cells #[.int .i64 0, .int .i64 0, .string ⟨#[]⟩, .string ⟨#[]⟩, .string ⟨#[]⟩, .int .i64 0] 32)).alloc (.cells #[.int .i64 7, .int .i64 0, .string ⟨#[]⟩, .string ⟨#[]⟩, .string ⟨#[]⟩, .int .i64 0] 32) = X1
  have hsX : (w.setCell ⟨P, 1, none⟩ (.int .i64 (a1 : Int))).heap.size = w.heap.size := by simp [World.setCell]
  have GX : Gr (w.setCell ⟨P, 1, none⟩ (.int .i64 (a1 : Int))) X1 := by rw [← hX]; exact ((Gr.refl _).alloc _).alloc _
  have SS1 := Lib.hid ((H.out.setAt a1).gr GX)
  have BX := Lib.hid ((But.set (P := P) (w := w) 1 (.int .i64 (a1 : Int))).trans (But.of_gr GX))
  have QQ1 := Lib.hid (HQ.out.but BX.out hQP)
  have BB1 : Hid (Bt P Q w X1) := Lib.hid (Bt.of_but BX.out)
  have KR1 : Hid (X1.heap[w.heap.size]? = some (.cells #[.int .i64 0, .int .i64 0, .string ⟨#[]⟩, .string ⟨#[]⟩, .string ⟨#[]⟩, .int .i64 0] 32 (0, 0))) := Lib.hid (by
    rw [← hX, heap_alloc_old _ _ (by simp), ← hsX]; exact heap_alloc_new _ _)
  have KT1 : Hid (X1.heap[w.heap.size + 1]? = some (.cells #[.int .i64 7, .int .i64 0, .string ⟨#[]⟩, .string ⟨#[]⟩, .string ⟨#[]⟩, .int .i64 0] 32 (0, 0))) := Lib.hid (by
    rw [← hX]; have := heap_alloc_new ((w.setCell ⟨P, 1, none⟩ (.int .i64 (a1 : Int))).alloc (.cells #[.int .i64 0, .int .i64 0, .string ⟨#[]⟩, .string ⟨#[]⟩, .string ⟨#[]⟩, .int .i64 0] 32)) (.cells #[.int .i64 7, .int .i64 0, .string ⟨#[]⟩, .string ⟨#[]⟩, .string ⟨#[]⟩, .int .i64 0] 32); simpa using this)
  clear hX GX hsX c0 c1 c2 c3 c4 c5 c6 c7 cf q0 q1 q2 hw1 hw2 BX
  refine (HPt.out _ SS1.out QQ1.out).mono ?_
  rintro e2 w2 ⟨b1, rfl, hS, hb, hR, hab, hbl, hlen⟩
  have SS2 := Lib.hid hS
  have QQ2 := Lib.hid (QQ1.out.but hb hQP)
  have BB2 := Lib.hid (BB1.out.trans (Bt.of_but hb))
  have KR2 := Lib.hid ((hb.block _ (Array.getElem?_eq_some_iff.1 KR1.out).1 (by simp; omega)).trans KR1.out)
  have KT2 := Lib.hid ((hb.block _ (Array.getElem?_eq_some_iff.1 KT1.out).1 (by simp; omega)).trans KT1.out)
  clear hS hb SS1 QQ1 BB1 KR1 KT1 HPt
  have HR := Lib.hid hR
  have Hab := Lib.hid hab
  have Hbl := Lib.hid hbl
  have Hlen : Hid (raw.length ≤ 4000) := Lib.hid (by rw [sizeL] at hbl; omega)
  have Ha1 : Hid (at_ < b1) := Lib.hid (by have := HA1.out; omega)
  clear hR hab hbl hlen
  have HT := Lib.hid (fun w => ws_l raw (by have := Hlen.out; omega) w)
  have HF := Lib.hid (fun (W : World) (hS : Sc W P M s b1 en tm tv bv ov) (hq : Quo W Q P fr o) => flags_g hS hq hQP Hbl.out hs HJ.out ⟨#[105, 109, 115, 120, 103]⟩ (by decide) (by decide) HR.out)
  obtain ⟨q0, q1, q2⟩ := Quo.cells QQ2.out
  go_wp2_with fail
  refine (HT.out _).mono ?_
  rintro e3 w3 ⟨rfl, g⟩
  have SS3 := Lib.hid (SS2.out.gr g)
  have QQ3 := Lib.hid (Quo_gr QQ2.out g)
  have BB3 := Lib.hid (BB2.out.trans (Bt.of_gr g))
  have KR3 := Lib.hid ((g.block _ (Array.getElem?_eq_some_iff.1 KR2.out).1).trans KR2.out)
  have KT3 := Lib.hid ((g.block _ (Array.getElem?_eq_some_iff.1 KT2.out).1).trans KT2.out)
  clear g SS2 QQ2 BB2 KR2 KT2 HT q0 q1 q2
  have k2 : w3.cell? ⟨w.heap.size + 1, 2, none⟩ = some (.string ⟨#[]⟩) := by rw [(cellsOf KT3.out).1]; rfl
  have kf : ∀ j, w3.frozen? ⟨w.heap.size + 1, j, none⟩ = false := (cellsOf KT3.out).2
  go_wp2_with fail
  have BS : But (w.heap.size + 1) w3 (w3.setCell ⟨w.heap.size + 1, 2, none⟩ (.string ⟨(wsL raw).toArray⟩)) := But.set 2 _
  have SS4 := Lib.hid (SS3.out.but BS (by omega) (by omega))
  have QQ4 := Lib.hid (Quo_any QQ3.out BS (by omega))
  have BB4 := Lib.hid (BB3.out.late (by omega) BS)
  have KR4 := Lib.hid ((BS.block _ (Array.getElem?_eq_some_iff.1 KR3.out).1 (by simp)).trans KR3.out)
  have KT4 : Hid ((w3.setCell ⟨w.heap.size + 1, 2, none⟩ (.string ⟨(wsL raw).toArray⟩)).heap[w.heap.size + 1]? = some (.cells #[.int .i64 7, .int .i64 0, .string ⟨(wsL raw).toArray⟩, .string ⟨#[]⟩, .string ⟨#[]⟩, .int .i64 0] 32 (0, 0))) := Lib.hid (by
    have := KT3.out
    simp [World.setCell, Array.getElem?_modify, this])
  clear BS SS3 QQ3 BB3 KR3 KT3 k2 kf
  generalize w3.setCell ⟨w.heap.size + 1, 2, none⟩ (.string ⟨(wsL raw).toArray⟩) = X4 at *
  refine (HF.out _ SS4.out QQ4.out).mono ?_
  rintro e5 w5 ⟨b2, rfl, hS, hb, hR2, hab2, hbl2⟩
  have SS5 := Lib.hid hS
  have QQ5 := Lib.hid (QQ4.out.but hb hQP)
  have BB5 := Lib.hid (BB4.out.trans (Bt.of_but hb))
  have KR5 := Lib.hid ((hb.block _ (Array.getElem?_eq_some_iff.1 KR4.out).1 (by simp; omega)).trans KR4.out)
  have KT5 := Lib.hid ((hb.block _ (Array.getElem?_eq_some_iff.1 KT4.out).1 (by simp; omega)).trans KT4.out)
  clear hS hb SS4 QQ4 BB4 KR4 KT4 HF
  have HR2 := Lib.hid hR2
  have Hbl2 := Lib.hid hbl2
  have Ha2 : Hid (at_ < b2) := Lib.hid (by have := Ha1.out; omega)
  clear hR2 hab2 hbl2
  have k2 : w5.cell? ⟨w.heap.size + 1, 4, none⟩ = some (.string ⟨#[]⟩) := by rw [(cellsOf KT5.out).1]; rfl
  have kf : ∀ j, w5.frozen? ⟨w.heap.size + 1, j, none⟩ = false := (cellsOf KT5.out).2
  have BS : But (w.heap.size + 1) w5 (w5.setCell ⟨w.heap.size + 1, 4, none⟩ (.string ⟨((byt R).take (flagS R flagsP)).toArray⟩)) := But.set 4 _
  have SS6 := Lib.hid (SS5.out.but BS (by omega) (by omega))
  have QQ6 := Lib.hid (Quo_any QQ5.out BS (by omega))
  have BB6 := Lib.hid (BB5.out.late (by omega) BS)
  have KR6 := Lib.hid ((BS.block _ (Array.getElem?_eq_some_iff.1 KR5.out).1 (by simp)).trans KR5.out)
  have KT6 : Hid ((w5.setCell ⟨w.heap.size + 1, 4, none⟩ (.string ⟨((byt R).take (flagS R flagsP)).toArray⟩)).heap[w.heap.size + 1]? = some (.cells #[.int .i64 7, .int .i64 0, .string ⟨(wsL raw).toArray⟩, .string ⟨#[]⟩, .string ⟨((byt R).take (flagS R flagsP)).toArray⟩, .int .i64 0] 32 (0, 0))) := Lib.hid (by
    have := KT5.out
    simp [World.setCell, Array.getElem?_modify, this])
  clear BS SS5 QQ5 BB5 KR5 KT5
  go_wp2_with (first | (refine wpList_load_row rfl 32 (.tmp 5) rfl (w.heap.size + 1) rfl 32 #[.int .i64 7, .int .i64 0, .string ⟨(wsL raw).toArray⟩, .string ⟨#[]⟩, .string ⟨((byt R).take (flagS R flagsP)).toArray⟩, .int .i64 0] (0, 0) _ KT6.out Tryd.underlying32 rfl (by rw [tokInfo]; rfl) ?_) | (refine wpList_store_tok rfl (.tmp 4) (.tmp 98) rfl (t := ⟨7, 0, ⟨(wsL raw).toArray⟩, ⟨#[]⟩, ⟨((byt R).take (flagS R flagsP)).toArray⟩, 0⟩) rfl rfl KR6.out rfl ?_))
  intro W7 hb7 hk7
  have B7 := Lib.hid hb7
  have K7 := Lib.hid hk7
  clear hb7 hk7
  go_wp2_with fail
  refine bodyPost_ret (results_tok rfl rfl K7.out) rfl ?_
  exact ⟨b2, rfl, SS6.out.but B7.out (by omega) (by omega), BB6.out.late (Nat.le_refl _) B7.out, HR2.out, Ha2.out, Hbl2.out⟩
set_option maxRecDepth 100000 in
set_option maxHeartbeats 2000000 in
theorem qtok_8no {Q fr : Nat} (h : Sc w P M s at_ en tm tv bv ov) (hq : Quo w Q P fr o) (hQP : Q ≠ P) (hQM : Q ≠ M.blk) (hs : s.size ≤ 4000) (hJ : JOk s.data.toList M.J) (ha : at_ < s.data.toList.length) (hfr : fr < s.size) (hd : delimB o.toNat = true) {raw : List UInt8} {R : Src} (hX : partS o (partU o) 0 (rest s.data.toList M.J (at_ + 1)) = some (raw, R)) (hX2 : secondS o R = none) :
    Calls Tryd.prog 51 #[.pointer (some ⟨Q, 0, none⟩), .int .i64 8] w fun e w' => Bad s e ∧ Bt P Q w w' := by
  have H := Lib.hid h
  have HQ := Lib.hid hq
  have h47 : s.size ≤ 140737488351232 := by omega
  have hat : (at_ : Int) + 1 ≤ 4000 := by rw [sizeL] at ha; omega
  have HPt := Lib.hid (fun (W : World) (hS : Sc W P M s (at_ + 1) en tm tv bv ov) (hq : Quo W Q P fr o) => part_ok hS hq hQP hs hJ (by omega) hfr hd hX)
  have HJ := Lib.hid hJ
  have HX2 := Lib.hid hX2
  have Hfr := Lib.hid hfr
  have Hd := Lib.hid hd
  clear hX hJ ha hfr hd hX2
  have hP : P < w.heap.size := h.lt.1
  have hM : M.blk < w.heap.size := h.lt.2
  have hQ : Q < w.heap.size := (Array.getElem?_eq_some_iff.1 hq).1
  obtain ⟨a1, ha1⟩ : ∃ a1, a1 = at_ + 1 := ⟨_, rfl⟩
  have hw1 : IntKind.i64.wrap ((at_ : Int) + 1) = (a1 : Int) := by rw [IntKind.wrap_i64]; omega
  have hw2 : wrap64 ((at_ : Int) + 1) = (a1 : Int) := by simp only [wrap64]; omega
  have G0 : Gr w ((w.alloc (.cells #[.int .i64 0, .int .i64 0, .string ⟨#[]⟩, .string ⟨#[]⟩, .string ⟨#[]⟩, .int .i64 0] 32)).alloc (.cells #[.int .i64 8, .int .i64 0, .string ⟨#[]⟩, .string ⟨#[]⟩, .string ⟨#[]⟩, .int .i64 0] 32)) := ((Gr.refl w).alloc _).alloc _
  obtain ⟨c0, c1, c2, c3, c4, c5, c6, c7, cf⟩ := (h.gr G0).cells
  obtain ⟨q0, q1, q2⟩ := (hq.but (But.of_gr G0) hQP).cells
  rw [← ha1] at HPt
  have HA1 := Lib.hid ha1
  clear h hq ha1 G0
  go_enter Tryd.func51, Tryd.ntmps51
  go_wp2_with fail
  generalize hX : ((w.setCell ⟨P, 1, none⟩ (.int .i64 (a1 : Int))).alloc (.cells #[.int .i64 0, .int .i64 0, .string ⟨#[]⟩, .string ⟨#[]⟩, .string ⟨#[]⟩, .int .i64 0] 32)).alloc (.cells #[.int .i64 8, .int .i64 0, .string ⟨#[]⟩, .string ⟨#[]⟩, .string ⟨#[]⟩, .int .i64 0] 32) = X1
  have hsX : (w.setCell ⟨P, 1, none⟩ (.int .i64 (a1 : Int))).heap.size = w.heap.size := by simp [World.setCell]
  have GX : Gr (w.setCell ⟨P, 1, none⟩ (.int .i64 (a1 : Int))) X1 := by rw [← hX]; exact ((Gr.refl _).alloc _).alloc _
  have SS1 := Lib.hid ((H.out.setAt a1).gr GX)
  have BX := Lib.hid ((But.set (P := P) (w := w) 1 (.int .i64 (a1 : Int))).trans (But.of_gr GX))
  have QQ1 := Lib.hid (HQ.out.but BX.out hQP)
  have BB1 : Hid (Bt P Q w X1) := Lib.hid (Bt.of_but BX.out)
  have KR1 : Hid (X1.heap[w.heap.size]? = some (.cells #[.int .i64 0, .int .i64 0, .string ⟨#[]⟩, .string ⟨#[]⟩, .string ⟨#[]⟩, .int .i64 0] 32 (0, 0))) := Lib.hid (by
    rw [← hX, heap_alloc_old _ _ (by simp), ← hsX]; exact heap_alloc_new _ _)
  have KT1 : Hid (X1.heap[w.heap.size + 1]? = some (.cells #[.int .i64 8, .int .i64 0, .string ⟨#[]⟩, .string ⟨#[]⟩, .string ⟨#[]⟩, .int .i64 0] 32 (0, 0))) := Lib.hid (by
    rw [← hX]; have := heap_alloc_new ((w.setCell ⟨P, 1, none⟩ (.int .i64 (a1 : Int))).alloc (.cells #[.int .i64 0, .int .i64 0, .string ⟨#[]⟩, .string ⟨#[]⟩, .string ⟨#[]⟩, .int .i64 0] 32)) (.cells #[.int .i64 8, .int .i64 0, .string ⟨#[]⟩, .string ⟨#[]⟩, .string ⟨#[]⟩, .int .i64 0] 32); simpa using this)
  clear hX GX hsX c0 c1 c2 c3 c4 c5 c6 c7 cf q0 q1 q2 hw1 hw2 BX
  refine (HPt.out _ SS1.out QQ1.out).mono ?_
  rintro e2 w2 ⟨b1, rfl, hS, hb, hR, hab, hbl, hlen⟩
  have SS2 := Lib.hid hS
  have QQ2 := Lib.hid (QQ1.out.but hb hQP)
  have BB2 := Lib.hid (BB1.out.trans (Bt.of_but hb))
  have KR2 := Lib.hid ((hb.block _ (Array.getElem?_eq_some_iff.1 KR1.out).1 (by simp; omega)).trans KR1.out)
  have KT2 := Lib.hid ((hb.block _ (Array.getElem?_eq_some_iff.1 KT1.out).1 (by simp; omega)).trans KT1.out)
  clear hS hb SS1 QQ1 BB1 KR1 KT1 HPt
  have HR := Lib.hid hR
  have Hab := Lib.hid hab
  have Hbl := Lib.hid hbl
  have Hlen : Hid (raw.length ≤ 4000) := Lib.hid (by rw [sizeL] at hbl; omega)
  have Ha1 : Hid (at_ < b1) := Lib.hid (by have := HA1.out; omega)
  clear hR hab hbl hlen
  have HT := Lib.hid (fun w => ws_l raw (by have := Hlen.out; omega) w)
  have HSec := Lib.hid (fun (W : World) (hS : Sc W P M s b1 en tm tv bv ov) (hq : Quo W Q P fr o) => second_no hS hq hQP hQM hs HJ.out Hbl.out Hfr.out Hd.out HR.out HX2.out)
  obtain ⟨q0, q1, q2⟩ := Quo.cells QQ2.out
  go_wp2_with fail
  refine (HT.out _).mono ?_
  rintro e3 w3 ⟨rfl, g⟩
  have SS3 := Lib.hid (SS2.out.gr g)
  have QQ3 := Lib.hid (Quo_gr QQ2.out g)
  have BB3 := Lib.hid (BB2.out.trans (Bt.of_gr g))
  have KR3 := Lib.hid ((g.block _ (Array.getElem?_eq_some_iff.1 KR2.out).1).trans KR2.out)
  have KT3 := Lib.hid ((g.block _ (Array.getElem?_eq_some_iff.1 KT2.out).1).trans KT2.out)
  clear g SS2 QQ2 BB2 KR2 KT2 HT q0 q1 q2
  have k2 : w3.cell? ⟨w.heap.size + 1, 2, none⟩ = some (.string ⟨#[]⟩) := by rw [(cellsOf KT3.out).1]; rfl
  have kf : ∀ j, w3.frozen? ⟨w.heap.size + 1, j, none⟩ = false := (cellsOf KT3.out).2
  go_wp2_with fail
  have BS : But (w.heap.size + 1) w3 (w3.setCell ⟨w.heap.size + 1, 2, none⟩ (.string ⟨(wsL raw).toArray⟩)) := But.set 2 _
  have SS4 := Lib.hid (SS3.out.but BS (by omega) (by omega))
  have QQ4 := Lib.hid (Quo_any QQ3.out BS (by omega))
  have BB4 := Lib.hid (BB3.out.late (by omega) BS)
  have KR4 := Lib.hid ((BS.block _ (Array.getElem?_eq_some_iff.1 KR3.out).1 (by simp)).trans KR3.out)
  have KT4 : Hid ((w3.setCell ⟨w.heap.size + 1, 2, none⟩ (.string ⟨(wsL raw).toArray⟩)).heap[w.heap.size + 1]? = some (.cells #[.int .i64 8, .int .i64 0, .string ⟨(wsL raw).toArray⟩, .string ⟨#[]⟩, .string ⟨#[]⟩, .int .i64 0] 32 (0, 0))) := Lib.hid (by
    have := KT3.out
    simp [World.setCell, Array.getElem?_modify, this])
  clear BS SS3 QQ3 BB3 KR3 KT3 k2 kf
  generalize w3.setCell ⟨w.heap.size + 1, 2, none⟩ (.string ⟨(wsL raw).toArray⟩) = X4 at *
  refine (HSec.out _ SS4.out QQ4.out).mono ?_
  rintro e5 w5 ⟨⟨q, hq, rfl⟩, hb⟩
  go_wp2_with fail
  exact ⟨rfl, ⟨q, hq, rfl⟩, BB4.out.trans hb⟩
set_option maxRecDepth 100000 in
set_option maxHeartbeats 2000000 in
theorem qtok_8 {Q fr : Nat} (h : Sc w P M s at_ en tm tv bv ov) (hq : Quo w Q P fr o) (hQP : Q ≠ P) (hQM : Q ≠ M.blk) (hs : s.size ≤ 4000) (hJ : JOk s.data.toList M.J) (ha : at_ < s.data.toList.length) (hfr : fr < s.size) (hd : delimB o.toNat = true) {raw : List UInt8} {R : Src} (hX : partS o (partU o) 0 (rest s.data.toList M.J (at_ + 1)) = some (raw, R)) {o2 : UInt8} {raw2 : List UInt8} {R2 : Src} (hX2 : secondS o R = some (o2, raw2, R2)) :
    Calls Tryd.prog 51 #[.pointer (some ⟨Q, 0, none⟩), .int .i64 8] w fun e w' => ∃ b, e = .returned (Tok.val ⟨8, 0, ⟨(wsL raw).toArray⟩, ⟨(wsL (inL o2 raw2)).toArray⟩, ⟨((byt R2).take (flagS R2 flagsP)).toArray⟩, 0⟩) ∧ Sc w' P M s b en tm tv bv ov ∧ Bt P Q w w' ∧ R2.drop (flagS R2 flagsP) = rest s.data.toList M.J b ∧ at_ < b ∧ b ≤ s.data.toList.length := by
  have H := Lib.hid h
  have HQ := Lib.hid hq
  have h47 : s.size ≤ 140737488351232 := by omega
  have hat : (at_ : Int) + 1 ≤ 4000 := by rw [sizeL] at ha; omega
  have HPt := Lib.hid (fun (W : World) (hS : Sc W P M s (at_ + 1) en tm tv bv ov) (hq : Quo W Q P fr o) => part_ok hS hq hQP hs hJ (by omega) hfr hd hX)
  have HJ := Lib.hid hJ
  have HX2 := Lib.hid hX2
  have Hfr := Lib.hid hfr
  have Hd := Lib.hid hd
  clear hX hJ ha hfr hd hX2
  have hP : P < w.heap.size := h.lt.1
  have hM : M.blk < w.heap.size := h.lt.2
  have hQ : Q < w.heap.size := (Array.getElem?_eq_some_iff.1 hq).1
  obtain ⟨a1, ha1⟩ : ∃ a1, a1 = at_ + 1 := ⟨_, rfl⟩
  have hw1 : IntKind.i64.wrap ((at_ : Int) + 1) = (a1 : Int) := by rw [IntKind.wrap_i64]; omega
  have hw2 : wrap64 ((at_ : Int) + 1) = (a1 : Int) := by simp only [wrap64]; omega
  have G0 : Gr w ((w.alloc (.cells #[.int .i64 0, .int .i64 0, .string ⟨#[]⟩, .string ⟨#[]⟩, .string ⟨#[]⟩, .int .i64 0] 32)).alloc (.cells #[.int .i64 8, .int .i64 0, .string ⟨#[]⟩, .string ⟨#[]⟩, .string ⟨#[]⟩, .int .i64 0] 32)) := ((Gr.refl w).alloc _).alloc _
  obtain ⟨c0, c1, c2, c3, c4, c5, c6, c7, cf⟩ := (h.gr G0).cells
  obtain ⟨q0, q1, q2⟩ := (hq.but (But.of_gr G0) hQP).cells
  rw [← ha1] at HPt
  have HA1 := Lib.hid ha1
  clear h hq ha1 G0
  go_enter Tryd.func51, Tryd.ntmps51
  go_wp2_with fail
  generalize hX : ((w.setCell ⟨P, 1, none⟩ (.int .i64 (a1 : Int))).alloc (.cells #[.int .i64 0, .int .i64 0, .string ⟨#[]⟩, .string ⟨#[]⟩, .string ⟨#[]⟩, .int .i64 0] 32)).alloc (.cells #[.int .i64 8, .int .i64 0, .string ⟨#[]⟩, .string ⟨#[]⟩, .string ⟨#[]⟩, .int .i64 0] 32) = X1
  have hsX : (w.setCell ⟨P, 1, none⟩ (.int .i64 (a1 : Int))).heap.size = w.heap.size := by simp [World.setCell]
  have GX : Gr (w.setCell ⟨P, 1, none⟩ (.int .i64 (a1 : Int))) X1 := by rw [← hX]; exact ((Gr.refl _).alloc _).alloc _
  have SS1 := Lib.hid ((H.out.setAt a1).gr GX)
  have BX := Lib.hid ((But.set (P := P) (w := w) 1 (.int .i64 (a1 : Int))).trans (But.of_gr GX))
  have QQ1 := Lib.hid (HQ.out.but BX.out hQP)
  have BB1 : Hid (Bt P Q w X1) := Lib.hid (Bt.of_but BX.out)
  have KR1 : Hid (X1.heap[w.heap.size]? = some (.cells #[.int .i64 0, .int .i64 0, .string ⟨#[]⟩, .string ⟨#[]⟩, .string ⟨#[]⟩, .int .i64 0] 32 (0, 0))) := Lib.hid (by
    rw [← hX, heap_alloc_old _ _ (by simp), ← hsX]; exact heap_alloc_new _ _)
  have KT1 : Hid (X1.heap[w.heap.size + 1]? = some (.cells #[.int .i64 8, .int .i64 0, .string ⟨#[]⟩, .string ⟨#[]⟩, .string ⟨#[]⟩, .int .i64 0] 32 (0, 0))) := Lib.hid (by
    rw [← hX]; have := heap_alloc_new ((w.setCell ⟨P, 1, none⟩ (.int .i64 (a1 : Int))).alloc (.cells #[.int .i64 0, .int .i64 0, .string ⟨#[]⟩, .string ⟨#[]⟩, .string ⟨#[]⟩, .int .i64 0] 32)) (.cells #[.int .i64 8, .int .i64 0, .string ⟨#[]⟩, .string ⟨#[]⟩, .string ⟨#[]⟩, .int .i64 0] 32); simpa using this)
  clear hX GX hsX c0 c1 c2 c3 c4 c5 c6 c7 cf q0 q1 q2 hw1 hw2 BX
  refine (HPt.out _ SS1.out QQ1.out).mono ?_
  rintro e2 w2 ⟨b1, rfl, hS, hb, hR, hab, hbl, hlen⟩
  have SS2 := Lib.hid hS
  have QQ2 := Lib.hid (QQ1.out.but hb hQP)
  have BB2 := Lib.hid (BB1.out.trans (Bt.of_but hb))
  have KR2 := Lib.hid ((hb.block _ (Array.getElem?_eq_some_iff.1 KR1.out).1 (by simp; omega)).trans KR1.out)
  have KT2 := Lib.hid ((hb.block _ (Array.getElem?_eq_some_iff.1 KT1.out).1 (by simp; omega)).trans KT1.out)
  clear hS hb SS1 QQ1 BB1 KR1 KT1 HPt
  have HR := Lib.hid hR
  have Hab := Lib.hid hab
  have Hbl := Lib.hid hbl
  have Hlen : Hid (raw.length ≤ 4000) := Lib.hid (by rw [sizeL] at hbl; omega)
  have Ha1 : Hid (at_ < b1) := Lib.hid (by have := HA1.out; omega)
  clear hR hab hbl hlen
  have HT := Lib.hid (fun w => ws_l raw (by have := Hlen.out; omega) w)
  have HSec := Lib.hid (fun (W : World) (hS : Sc W P M s b1 en tm tv bv ov) (hq : Quo W Q P fr o) => second_ok hS hq hQP hQM hs HJ.out Hbl.out Hfr.out Hd.out HR.out HX2.out)
  obtain ⟨q0, q1, q2⟩ := Quo.cells QQ2.out
  go_wp2_with fail
  refine (HT.out _).mono ?_
  rintro e3 w3 ⟨rfl, g⟩
  have SS3 := Lib.hid (SS2.out.gr g)
  have QQ3 := Lib.hid (Quo_gr QQ2.out g)
  have BB3 := Lib.hid (BB2.out.trans (Bt.of_gr g))
  have KR3 := Lib.hid ((g.block _ (Array.getElem?_eq_some_iff.1 KR2.out).1).trans KR2.out)
  have KT3 := Lib.hid ((g.block _ (Array.getElem?_eq_some_iff.1 KT2.out).1).trans KT2.out)
  clear g SS2 QQ2 BB2 KR2 KT2 HT q0 q1 q2
  have k2 : w3.cell? ⟨w.heap.size + 1, 2, none⟩ = some (.string ⟨#[]⟩) := by rw [(cellsOf KT3.out).1]; rfl
  have kf : ∀ j, w3.frozen? ⟨w.heap.size + 1, j, none⟩ = false := (cellsOf KT3.out).2
  go_wp2_with fail
  have BS : But (w.heap.size + 1) w3 (w3.setCell ⟨w.heap.size + 1, 2, none⟩ (.string ⟨(wsL raw).toArray⟩)) := But.set 2 _
  have SS4 := Lib.hid (SS3.out.but BS (by omega) (by omega))
  have QQ4 := Lib.hid (Quo_any QQ3.out BS (by omega))
  have BB4 := Lib.hid (BB3.out.late (by omega) BS)
  have KR4 := Lib.hid ((BS.block _ (Array.getElem?_eq_some_iff.1 KR3.out).1 (by simp)).trans KR3.out)
  have KT4 : Hid ((w3.setCell ⟨w.heap.size + 1, 2, none⟩ (.string ⟨(wsL raw).toArray⟩)).heap[w.heap.size + 1]? = some (.cells #[.int .i64 8, .int .i64 0, .string ⟨(wsL raw).toArray⟩, .string ⟨#[]⟩, .string ⟨#[]⟩, .int .i64 0] 32 (0, 0))) := Lib.hid (by
    have := KT3.out
    simp [World.setCell, Array.getElem?_modify, this])
  clear BS SS3 QQ3 BB3 KR3 KT3 k2 kf
  generalize w3.setCell ⟨w.heap.size + 1, 2, none⟩ (.string ⟨(wsL raw).toArray⟩) = X4 at *
  refine (HSec.out _ SS4.out QQ4.out).mono ?_
  rintro e5 w5 ⟨b2, rfl, hS, hQ2, hb, hR2, hab2, hbl2, hlen2⟩
  have SS5 := Lib.hid hS
  have QQ5 := Lib.hid hQ2
  have BB5 := Lib.hid (BB4.out.trans hb)
  have KR5 := Lib.hid ((hb.block _ (Array.getElem?_eq_some_iff.1 KR4.out).1 (by omega) (by omega)).trans KR4.out)
  have KT5 := Lib.hid ((hb.block _ (Array.getElem?_eq_some_iff.1 KT4.out).1 (by omega) (by omega)).trans KT4.out)
  have HR2 := Lib.hid hR2
  have Hab2 := Lib.hid hab2
  have Hbl2 := Lib.hid hbl2
  have Hl2 : Hid (raw2.length ≤ 4000) := Lib.hid (by rw [sizeL] at hbl2; omega)
  clear hS hQ2 hb hR2 hab2 hbl2 hlen2 SS4 QQ4 BB4 KR4 KT4 HSec
  clear HX2
  have HF := Lib.hid (fun (W : World) (hS : Sc W P M s b2 en tm tv bv ov) (hq : Quo W Q P fr o2) => flags_g hS hq hQP Hbl2.out hs HJ.out ⟨#[105, 109, 115, 120, 103]⟩ (by decide) (by decide) HR2.out)
  have HT1 := Lib.hid (fun w => inter_l raw2 o2 (by have := Hl2.out; omega) w)
  have HT2 := Lib.hid (fun w => ws_l (inL o2 raw2) (by have := Hl2.out; have := inL_len o2 raw2; omega) w)
  obtain ⟨q0, q1, q2⟩ := Quo.cells QQ5.out
  go_wp2_with fail
  refine (HT1.out _).mono ?_
  rintro e6 w6 ⟨rfl, g⟩
  have SS6 := Lib.hid (SS5.out.gr g)
  have QQ6 := Lib.hid (Quo_gr QQ5.out g)
  have BB6 := Lib.hid (BB5.out.trans (Bt.of_gr g))
  have KR6 := Lib.hid ((g.block _ (Array.getElem?_eq_some_iff.1 KR5.out).1).trans KR5.out)
  have KT6 := Lib.hid ((g.block _ (Array.getElem?_eq_some_iff.1 KT5.out).1).trans KT5.out)
  clear g SS5 QQ5 BB5 KR5 KT5 HT1 q0 q1 q2
  go_wp2_with fail
  refine (HT2.out _).mono ?_
  rintro e7 w7 ⟨rfl, g⟩
  have SS7 := Lib.hid (SS6.out.gr g)
  have QQ7 := Lib.hid (Quo_gr QQ6.out g)
  have BB7 := Lib.hid (BB6.out.trans (Bt.of_gr g))
  have KR7 := Lib.hid ((g.block _ (Array.getElem?_eq_some_iff.1 KR6.out).1).trans KR6.out)
  have KT7 := Lib.hid ((g.block _ (Array.getElem?_eq_some_iff.1 KT6.out).1).trans KT6.out)
  clear g SS6 QQ6 BB6 KR6 KT6 HT2
  have k2 : w7.cell? ⟨w.heap.size + 1, 3, none⟩ = some (.string ⟨#[]⟩) := by rw [(cellsOf KT7.out).1]; rfl
  have kf : ∀ j, w7.frozen? ⟨w.heap.size + 1, j, none⟩ = false := (cellsOf KT7.out).2
  go_wp2_with fail
  have BS : But (w.heap.size + 1) w7 (w7.setCell ⟨w.heap.size + 1, 3, none⟩ (.string ⟨(wsL (inL o2 raw2)).toArray⟩)) := But.set 3 _
  have SS8 := Lib.hid (SS7.out.but BS (by omega) (by omega))
  have QQ8 := Lib.hid (Quo_any QQ7.out BS (by omega))
  have BB8 := Lib.hid (BB7.out.late (by omega) BS)
  have KR8 := Lib.hid ((BS.block _ (Array.getElem?_eq_some_iff.1 KR7.out).1 (by simp)).trans KR7.out)
  have KT8 : Hid ((w7.setCell ⟨w.heap.size + 1, 3, none⟩ (.string ⟨(wsL (inL o2 raw2)).toArray⟩)).heap[w.heap.size + 1]? = some (.cells #[.int .i64 8, .int .i64 0, .string ⟨(wsL raw).toArray⟩, .string ⟨(wsL (inL o2 raw2)).toArray⟩, .string ⟨#[]⟩, .int .i64 0] 32 (0, 0))) := Lib.hid (by
    have := KT7.out
    simp [World.setCell, Array.getElem?_modify, this])
  clear BS SS7 QQ7 BB7 KR7 KT7 k2 kf
  generalize w7.setCell ⟨w.heap.size + 1, 3, none⟩ (.string ⟨(wsL (inL o2 raw2)).toArray⟩) = X8 at *
  refine (HF.out _ SS8.out QQ8.out).mono ?_
  rintro e9 w9 ⟨b3, rfl, hS, hb, hR3, hab3, hbl3⟩
  have SS9 := Lib.hid hS
  have QQ9 := Lib.hid (QQ8.out.but hb hQP)
  have BB9 := Lib.hid (BB8.out.trans (Bt.of_but hb))
  have KR9 := Lib.hid ((hb.block _ (Array.getElem?_eq_some_iff.1 KR8.out).1 (by simp; omega)).trans KR8.out)
  have KT9 := Lib.hid ((hb.block _ (Array.getElem?_eq_some_iff.1 KT8.out).1 (by simp; omega)).trans KT8.out)
  clear hS hb SS8 QQ8 BB8 KR8 KT8 HF
  have HR3 := Lib.hid hR3
  have Hbl3 := Lib.hid hbl3
  have Ha3 : Hid (at_ < b3) := Lib.hid (by have := Ha1.out; have := Hab2.out; omega)
  clear hR3 hab3 hbl3
  have k2 : w9.cell? ⟨w.heap.size + 1, 4, none⟩ = some (.string ⟨#[]⟩) := by rw [(cellsOf KT9.out).1]; rfl
  have kf : ∀ j, w9.frozen? ⟨w.heap.size + 1, j, none⟩ = false := (cellsOf KT9.out).2
  have BS : But (w.heap.size + 1) w9 (w9.setCell ⟨w.heap.size + 1, 4, none⟩ (.string ⟨((byt R2).take (flagS R2 flagsP)).toArray⟩)) := But.set 4 _
  have SS10 := Lib.hid (SS9.out.but BS (by omega) (by omega))
  have QQ10 := Lib.hid (Quo_any QQ9.out BS (by omega))
  have BB10 := Lib.hid (BB9.out.late (by omega) BS)
  have KR10 := Lib.hid ((BS.block _ (Array.getElem?_eq_some_iff.1 KR9.out).1 (by simp)).trans KR9.out)
  have KT10 : Hid ((w9.setCell ⟨w.heap.size + 1, 4, none⟩ (.string ⟨((byt R2).take (flagS R2 flagsP)).toArray⟩)).heap[w.heap.size + 1]? = some (.cells #[.int .i64 8, .int .i64 0, .string ⟨(wsL raw).toArray⟩, .string ⟨(wsL (inL o2 raw2)).toArray⟩, .string ⟨((byt R2).take (flagS R2 flagsP)).toArray⟩, .int .i64 0] 32 (0, 0))) := Lib.hid (by
    have := KT9.out
    simp [World.setCell, Array.getElem?_modify, this])
  clear BS SS9 QQ9 BB9 KR9 KT9
  go_wp2_with (first | (refine wpList_load_row rfl 32 (.tmp 5) rfl (w.heap.size + 1) rfl 32 #[.int .i64 8, .int .i64 0, .string ⟨(wsL raw).toArray⟩, .string ⟨(wsL (inL o2 raw2)).toArray⟩, .string ⟨((byt R2).take (flagS R2 flagsP)).toArray⟩, .int .i64 0] (0, 0) _ KT10.out Tryd.underlying32 rfl (by rw [tokInfo]; rfl) ?_) | (refine wpList_store_tok rfl (.tmp 4) (.tmp 98) rfl (t := ⟨8, 0, ⟨(wsL raw).toArray⟩, ⟨(wsL (inL o2 raw2)).toArray⟩, ⟨((byt R2).take (flagS R2 flagsP)).toArray⟩, 0⟩) rfl rfl KR10.out rfl ?_))
  intro W7 hb7 hk7
  have B7 := Lib.hid hb7
  have K7 := Lib.hid hk7
  clear hb7 hk7
  go_wp2_with fail
  refine bodyPost_ret (results_tok rfl rfl K7.out) rfl ?_
  exact ⟨b3, rfl, SS10.out.but B7.out (by omega) (by omega), BB10.out.late (Nat.le_refl _) B7.out, HR3.out, Ha3.out, Hbl3.out⟩
set_option maxRecDepth 100000 in
set_option maxHeartbeats 2000000 in
theorem qtok_9no {Q fr : Nat} (h : Sc w P M s at_ en tm tv bv ov) (hq : Quo w Q P fr o) (hQP : Q ≠ P) (hQM : Q ≠ M.blk) (hs : s.size ≤ 4000) (hJ : JOk s.data.toList M.J) (ha : at_ < s.data.toList.length) (hfr : fr < s.size) (hd : delimB o.toNat = true) {raw : List UInt8} {R : Src} (hX : partS o (partU o) 0 (rest s.data.toList M.J (at_ + 1)) = some (raw, R)) (hX2 : secondS o R = none) :
    Calls Tryd.prog 51 #[.pointer (some ⟨Q, 0, none⟩), .int .i64 9] w fun e w' => Bad s e ∧ Bt P Q w w' := by
  have H := Lib.hid h
  have HQ := Lib.hid hq
  have h47 : s.size ≤ 140737488351232 := by omega
  have hat : (at_ : Int) + 1 ≤ 4000 := by rw [sizeL] at ha; omega
  have HPt := Lib.hid (fun (W : World) (hS : Sc W P M s (at_ + 1) en tm tv bv ov) (hq : Quo W Q P fr o) => part_ok hS hq hQP hs hJ (by omega) hfr hd hX)
  have HJ := Lib.hid hJ
  have HX2 := Lib.hid hX2
  have Hfr := Lib.hid hfr
  have Hd := Lib.hid hd
  clear hX hJ ha hfr hd hX2
  have hP : P < w.heap.size := h.lt.1
  have hM : M.blk < w.heap.size := h.lt.2
  have hQ : Q < w.heap.size := (Array.getElem?_eq_some_iff.1 hq).1
  obtain ⟨a1, ha1⟩ : ∃ a1, a1 = at_ + 1 := ⟨_, rfl⟩
  have hw1 : IntKind.i64.wrap ((at_ : Int) + 1) = (a1 : Int) := by rw [IntKind.wrap_i64]; omega
  have hw2 : wrap64 ((at_ : Int) + 1) = (a1 : Int) := by simp only [wrap64]; omega
  have G0 : Gr w ((w.alloc (.cells #[.int .i64 0, .int .i64 0, .string ⟨#[]⟩, .string ⟨#[]⟩, .string ⟨#[]⟩, .int .i64 0] 32)).alloc (.cells #[.int .i64 9, .int .i64 0, .string ⟨#[]⟩, .string ⟨#[]⟩, .string ⟨#[]⟩, .int .i64 0] 32)) := ((Gr.refl w).alloc _).alloc _
  obtain ⟨c0, c1, c2, c3, c4, c5, c6, c7, cf⟩ := (h.gr G0).cells
  obtain ⟨q0, q1, q2⟩ := (hq.but (But.of_gr G0) hQP).cells
  rw [← ha1] at HPt
  have HA1 := Lib.hid ha1
  clear h hq ha1 G0
  go_enter Tryd.func51, Tryd.ntmps51
  go_wp2_with fail
  generalize hX : ((w.setCell ⟨P, 1, none⟩ (.int .i64 (a1 : Int))).alloc (.cells #[.int .i64 0, .int .i64 0, .string ⟨#[]⟩, .string ⟨#[]⟩, .string ⟨#[]⟩, .int .i64 0] 32)).alloc (.cells #[.int .i64 9, .int .i64 0, .string ⟨#[]⟩, .string ⟨#[]⟩, .string ⟨#[]⟩, .int .i64 0] 32) = X1
  have hsX : (w.setCell ⟨P, 1, none⟩ (.int .i64 (a1 : Int))).heap.size = w.heap.size := by simp [World.setCell]
  have GX : Gr (w.setCell ⟨P, 1, none⟩ (.int .i64 (a1 : Int))) X1 := by rw [← hX]; exact ((Gr.refl _).alloc _).alloc _
  have SS1 := Lib.hid ((H.out.setAt a1).gr GX)
  have BX := Lib.hid ((But.set (P := P) (w := w) 1 (.int .i64 (a1 : Int))).trans (But.of_gr GX))
  have QQ1 := Lib.hid (HQ.out.but BX.out hQP)
  have BB1 : Hid (Bt P Q w X1) := Lib.hid (Bt.of_but BX.out)
  have KR1 : Hid (X1.heap[w.heap.size]? = some (.cells #[.int .i64 0, .int .i64 0, .string ⟨#[]⟩, .string ⟨#[]⟩, .string ⟨#[]⟩, .int .i64 0] 32 (0, 0))) := Lib.hid (by
    rw [← hX, heap_alloc_old _ _ (by simp), ← hsX]; exact heap_alloc_new _ _)
  have KT1 : Hid (X1.heap[w.heap.size + 1]? = some (.cells #[.int .i64 9, .int .i64 0, .string ⟨#[]⟩, .string ⟨#[]⟩, .string ⟨#[]⟩, .int .i64 0] 32 (0, 0))) := Lib.hid (by
    rw [← hX]; have := heap_alloc_new ((w.setCell ⟨P, 1, none⟩ (.int .i64 (a1 : Int))).alloc (.cells #[.int .i64 0, .int .i64 0, .string ⟨#[]⟩, .string ⟨#[]⟩, .string ⟨#[]⟩, .int .i64 0] 32)) (.cells #[.int .i64 9, .int .i64 0, .string ⟨#[]⟩, .string ⟨#[]⟩, .string ⟨#[]⟩, .int .i64 0] 32); simpa using this)
  clear hX GX hsX c0 c1 c2 c3 c4 c5 c6 c7 cf q0 q1 q2 hw1 hw2 BX
  refine (HPt.out _ SS1.out QQ1.out).mono ?_
  rintro e2 w2 ⟨b1, rfl, hS, hb, hR, hab, hbl, hlen⟩
  have SS2 := Lib.hid hS
  have QQ2 := Lib.hid (QQ1.out.but hb hQP)
  have BB2 := Lib.hid (BB1.out.trans (Bt.of_but hb))
  have KR2 := Lib.hid ((hb.block _ (Array.getElem?_eq_some_iff.1 KR1.out).1 (by simp; omega)).trans KR1.out)
  have KT2 := Lib.hid ((hb.block _ (Array.getElem?_eq_some_iff.1 KT1.out).1 (by simp; omega)).trans KT1.out)
  clear hS hb SS1 QQ1 BB1 KR1 KT1 HPt
  have HR := Lib.hid hR
  have Hab := Lib.hid hab
  have Hbl := Lib.hid hbl
  have Hlen : Hid (raw.length ≤ 4000) := Lib.hid (by rw [sizeL] at hbl; omega)
  have Ha1 : Hid (at_ < b1) := Lib.hid (by have := HA1.out; omega)
  clear hR hab hbl hlen
  have HT := Lib.hid (fun w => plain_l raw o (by have := Hlen.out; omega) w)
  have HSec := Lib.hid (fun (W : World) (hS : Sc W P M s b1 en tm tv bv ov) (hq : Quo W Q P fr o) => second_no hS hq hQP hQM hs HJ.out Hbl.out Hfr.out Hd.out HR.out HX2.out)
  obtain ⟨q0, q1, q2⟩ := Quo.cells QQ2.out
  go_wp2_with fail
  refine (HT.out _).mono ?_
  rintro e3 w3 ⟨rfl, g⟩
  have SS3 := Lib.hid (SS2.out.gr g)
  have QQ3 := Lib.hid (Quo_gr QQ2.out g)
  have BB3 := Lib.hid (BB2.out.trans (Bt.of_gr g))
  have KR3 := Lib.hid ((g.block _ (Array.getElem?_eq_some_iff.1 KR2.out).1).trans KR2.out)
  have KT3 := Lib.hid ((g.block _ (Array.getElem?_eq_some_iff.1 KT2.out).1).trans KT2.out)
  clear g SS2 QQ2 BB2 KR2 KT2 HT q0 q1 q2
  have k2 : w3.cell? ⟨w.heap.size + 1, 2, none⟩ = some (.string ⟨#[]⟩) := by rw [(cellsOf KT3.out).1]; rfl
  have kf : ∀ j, w3.frozen? ⟨w.heap.size + 1, j, none⟩ = false := (cellsOf KT3.out).2
  go_wp2_with fail
  have BS : But (w.heap.size + 1) w3 (w3.setCell ⟨w.heap.size + 1, 2, none⟩ (.string ⟨(plL o raw).toArray⟩)) := But.set 2 _
  have SS4 := Lib.hid (SS3.out.but BS (by omega) (by omega))
  have QQ4 := Lib.hid (Quo_any QQ3.out BS (by omega))
  have BB4 := Lib.hid (BB3.out.late (by omega) BS)
  have KR4 := Lib.hid ((BS.block _ (Array.getElem?_eq_some_iff.1 KR3.out).1 (by simp)).trans KR3.out)
  have KT4 : Hid ((w3.setCell ⟨w.heap.size + 1, 2, none⟩ (.string ⟨(plL o raw).toArray⟩)).heap[w.heap.size + 1]? = some (.cells #[.int .i64 9, .int .i64 0, .string ⟨(plL o raw).toArray⟩, .string ⟨#[]⟩, .string ⟨#[]⟩, .int .i64 0] 32 (0, 0))) := Lib.hid (by
    have := KT3.out
    simp [World.setCell, Array.getElem?_modify, this])
  clear BS SS3 QQ3 BB3 KR3 KT3 k2 kf
  generalize w3.setCell ⟨w.heap.size + 1, 2, none⟩ (.string ⟨(plL o raw).toArray⟩) = X4 at *
  refine (HSec.out _ SS4.out QQ4.out).mono ?_
  rintro e5 w5 ⟨⟨q, hq, rfl⟩, hb⟩
  go_wp2_with fail
  exact ⟨rfl, ⟨q, hq, rfl⟩, BB4.out.trans hb⟩
set_option maxRecDepth 100000 in
set_option maxHeartbeats 2000000 in
theorem qtok_9 {Q fr : Nat} (h : Sc w P M s at_ en tm tv bv ov) (hq : Quo w Q P fr o) (hQP : Q ≠ P) (hQM : Q ≠ M.blk) (hs : s.size ≤ 4000) (hJ : JOk s.data.toList M.J) (ha : at_ < s.data.toList.length) (hfr : fr < s.size) (hd : delimB o.toNat = true) {raw : List UInt8} {R : Src} (hX : partS o (partU o) 0 (rest s.data.toList M.J (at_ + 1)) = some (raw, R)) {o2 : UInt8} {raw2 : List UInt8} {R2 : Src} (hX2 : secondS o R = some (o2, raw2, R2)) :
    Calls Tryd.prog 51 #[.pointer (some ⟨Q, 0, none⟩), .int .i64 9] w fun e w' => ∃ b, e = .returned (Tok.val ⟨9, 0, ⟨(plL o raw).toArray⟩, ⟨(plL o2 raw2).toArray⟩, ⟨((byt R2).take (flagS R2 flagsT)).toArray⟩, 0⟩) ∧ Sc w' P M s b en tm tv bv ov ∧ Bt P Q w w' ∧ R2.drop (flagS R2 flagsT) = rest s.data.toList M.J b ∧ at_ < b ∧ b ≤ s.data.toList.length := by
  have H := Lib.hid h
  have HQ := Lib.hid hq
  have h47 : s.size ≤ 140737488351232 := by omega
  have hat : (at_ : Int) + 1 ≤ 4000 := by rw [sizeL] at ha; omega
  have HPt := Lib.hid (fun (W : World) (hS : Sc W P M s (at_ + 1) en tm tv bv ov) (hq : Quo W Q P fr o) => part_ok hS hq hQP hs hJ (by omega) hfr hd hX)
  have HJ := Lib.hid hJ
  have HX2 := Lib.hid hX2
  have Hfr := Lib.hid hfr
  have Hd := Lib.hid hd
  clear hX hJ ha hfr hd hX2
  have hP : P < w.heap.size := h.lt.1
  have hM : M.blk < w.heap.size := h.lt.2
  have hQ : Q < w.heap.size := (Array.getElem?_eq_some_iff.1 hq).1
  obtain ⟨a1, ha1⟩ : ∃ a1, a1 = at_ + 1 := ⟨_, rfl⟩
  have hw1 : IntKind.i64.wrap ((at_ : Int) + 1) = (a1 : Int) := by rw [IntKind.wrap_i64]; omega
  have hw2 : wrap64 ((at_ : Int) + 1) = (a1 : Int) := by simp only [wrap64]; omega
  have G0 : Gr w ((w.alloc (.cells #[.int .i64 0, .int .i64 0, .string ⟨#[]⟩, .string ⟨#[]⟩, .string ⟨#[]⟩, .int .i64 0] 32)).alloc (.cells #[.int .i64 9, .int .i64 0, .string ⟨#[]⟩, .string ⟨#[]⟩, .string ⟨#[]⟩, .int .i64 0] 32)) := ((Gr.refl w).alloc _).alloc _
  obtain ⟨c0, c1, c2, c3, c4, c5, c6, c7, cf⟩ := (h.gr G0).cells
  obtain ⟨q0, q1, q2⟩ := (hq.but (But.of_gr G0) hQP).cells
  rw [← ha1] at HPt
  have HA1 := Lib.hid ha1
  clear h hq ha1 G0
  go_enter Tryd.func51, Tryd.ntmps51
  go_wp2_with fail
  generalize hX : ((w.setCell ⟨P, 1, none⟩ (.int .i64 (a1 : Int))).alloc (.cells #[.int .i64 0, .int .i64 0, .string ⟨#[]⟩, .string ⟨#[]⟩, .string ⟨#[]⟩, .int .i64 0] 32)).alloc (.cells #[.int .i64 9, .int .i64 0, .string ⟨#[]⟩, .string ⟨#[]⟩, .string ⟨#[]⟩, .int .i64 0] 32) = X1
  have hsX : (w.setCell ⟨P, 1, none⟩ (.int .i64 (a1 : Int))).heap.size = w.heap.size := by simp [World.setCell]
  have GX : Gr (w.setCell ⟨P, 1, none⟩ (.int .i64 (a1 : Int))) X1 := by rw [← hX]; exact ((Gr.refl _).alloc _).alloc _
  have SS1 := Lib.hid ((H.out.setAt a1).gr GX)
  have BX := Lib.hid ((But.set (P := P) (w := w) 1 (.int .i64 (a1 : Int))).trans (But.of_gr GX))
  have QQ1 := Lib.hid (HQ.out.but BX.out hQP)
  have BB1 : Hid (Bt P Q w X1) := Lib.hid (Bt.of_but BX.out)
  have KR1 : Hid (X1.heap[w.heap.size]? = some (.cells #[.int .i64 0, .int .i64 0, .string ⟨#[]⟩, .string ⟨#[]⟩, .string ⟨#[]⟩, .int .i64 0] 32 (0, 0))) := Lib.hid (by
    rw [← hX, heap_alloc_old _ _ (by simp), ← hsX]; exact heap_alloc_new _ _)
  have KT1 : Hid (X1.heap[w.heap.size + 1]? = some (.cells #[.int .i64 9, .int .i64 0, .string ⟨#[]⟩, .string ⟨#[]⟩, .string ⟨#[]⟩, .int .i64 0] 32 (0, 0))) := Lib.hid (by
    rw [← hX]; have := heap_alloc_new ((w.setCell ⟨P, 1, none⟩ (.int .i64 (a1 : Int))).alloc (.cells #[.int .i64 0, .int .i64 0, .string ⟨#[]⟩, .string ⟨#[]⟩, .string ⟨#[]⟩, .int .i64 0] 32)) (.cells #[.int .i64 9, .int .i64 0, .string ⟨#[]⟩, .string ⟨#[]⟩, .string ⟨#[]⟩, .int .i64 0] 32); simpa using this)
  clear hX GX hsX c0 c1 c2 c3 c4 c5 c6 c7 cf q0 q1 q2 hw1 hw2 BX
  refine (HPt.out _ SS1.out QQ1.out).mono ?_
  rintro e2 w2 ⟨b1, rfl, hS, hb, hR, hab, hbl, hlen⟩
  have SS2 := Lib.hid hS
  have QQ2 := Lib.hid (QQ1.out.but hb hQP)
  have BB2 := Lib.hid (BB1.out.trans (Bt.of_but hb))
  have KR2 := Lib.hid ((hb.block _ (Array.getElem?_eq_some_iff.1 KR1.out).1 (by simp; omega)).trans KR1.out)
  have KT2 := Lib.hid ((hb.block _ (Array.getElem?_eq_some_iff.1 KT1.out).1 (by simp; omega)).trans KT1.out)
  clear hS hb SS1 QQ1 BB1 KR1 KT1 HPt
  have HR := Lib.hid hR
  have Hab := Lib.hid hab
  have Hbl := Lib.hid hbl
  have Hlen : Hid (raw.length ≤ 4000) := Lib.hid (by rw [sizeL] at hbl; omega)
  have Ha1 : Hid (at_ < b1) := Lib.hid (by have := HA1.out; omega)
  clear hR hab hbl hlen
  have HT := Lib.hid (fun w => plain_l raw o (by have := Hlen.out; omega) w)
  have HSec := Lib.hid (fun (W : World) (hS : Sc W P M s b1 en tm tv bv ov) (hq : Quo W Q P fr o) => second_ok hS hq hQP hQM hs HJ.out Hbl.out Hfr.out Hd.out HR.out HX2.out)
  obtain ⟨q0, q1, q2⟩ := Quo.cells QQ2.out
  go_wp2_with fail
  refine (HT.out _).mono ?_
  rintro e3 w3 ⟨rfl, g⟩
  have SS3 := Lib.hid (SS2.out.gr g)
  have QQ3 := Lib.hid (Quo_gr QQ2.out g)
  have BB3 := Lib.hid (BB2.out.trans (Bt.of_gr g))
  have KR3 := Lib.hid ((g.block _ (Array.getElem?_eq_some_iff.1 KR2.out).1).trans KR2.out)
  have KT3 := Lib.hid ((g.block _ (Array.getElem?_eq_some_iff.1 KT2.out).1).trans KT2.out)
  clear g SS2 QQ2 BB2 KR2 KT2 HT q0 q1 q2
  have k2 : w3.cell? ⟨w.heap.size + 1, 2, none⟩ = some (.string ⟨#[]⟩) := by rw [(cellsOf KT3.out).1]; rfl
  have kf : ∀ j, w3.frozen? ⟨w.heap.size + 1, j, none⟩ = false := (cellsOf KT3.out).2
  go_wp2_with fail
  have BS : But (w.heap.size + 1) w3 (w3.setCell ⟨w.heap.size + 1, 2, none⟩ (.string ⟨(plL o raw).toArray⟩)) := But.set 2 _
  have SS4 := Lib.hid (SS3.out.but BS (by omega) (by omega))
  have QQ4 := Lib.hid (Quo_any QQ3.out BS (by omega))
  have BB4 := Lib.hid (BB3.out.late (by omega) BS)
  have KR4 := Lib.hid ((BS.block _ (Array.getElem?_eq_some_iff.1 KR3.out).1 (by simp)).trans KR3.out)
  have KT4 : Hid ((w3.setCell ⟨w.heap.size + 1, 2, none⟩ (.string ⟨(plL o raw).toArray⟩)).heap[w.heap.size + 1]? = some (.cells #[.int .i64 9, .int .i64 0, .string ⟨(plL o raw).toArray⟩, .string ⟨#[]⟩, .string ⟨#[]⟩, .int .i64 0] 32 (0, 0))) := Lib.hid (by
    have := KT3.out
    simp [World.setCell, Array.getElem?_modify, this])
  clear BS SS3 QQ3 BB3 KR3 KT3 k2 kf
  generalize w3.setCell ⟨w.heap.size + 1, 2, none⟩ (.string ⟨(plL o raw).toArray⟩) = X4 at *
  refine (HSec.out _ SS4.out QQ4.out).mono ?_
  rintro e5 w5 ⟨b2, rfl, hS, hQ2, hb, hR2, hab2, hbl2, hlen2⟩
  have SS5 := Lib.hid hS
  have QQ5 := Lib.hid hQ2
  have BB5 := Lib.hid (BB4.out.trans hb)
  have KR5 := Lib.hid ((hb.block _ (Array.getElem?_eq_some_iff.1 KR4.out).1 (by omega) (by omega)).trans KR4.out)
  have KT5 := Lib.hid ((hb.block _ (Array.getElem?_eq_some_iff.1 KT4.out).1 (by omega) (by omega)).trans KT4.out)
  have HR2 := Lib.hid hR2
  have Hab2 := Lib.hid hab2
  have Hbl2 := Lib.hid hbl2
  have Hl2 : Hid (raw2.length ≤ 4000) := Lib.hid (by rw [sizeL] at hbl2; omega)
  clear hS hQ2 hb hR2 hab2 hbl2 hlen2 SS4 QQ4 BB4 KR4 KT4 HSec
  clear HX2
  have HF := Lib.hid (fun (W : World) (hS : Sc W P M s b2 en tm tv bv ov) (hq : Quo W Q P fr o2) => flags_g hS hq hQP Hbl2.out hs HJ.out ⟨#[99, 100, 114]⟩ (by decide) (by decide) HR2.out)
  have HT1 := Lib.hid (fun w => plain_l raw2 o2 (by have := Hl2.out; omega) w)
  obtain ⟨q0, q1, q2⟩ := Quo.cells QQ5.out
  go_wp2_with fail
  refine (HT1.out _).mono ?_
  rintro e6 w6 ⟨rfl, g⟩
  have SS6 := Lib.hid (SS5.out.gr g)
  have QQ6 := Lib.hid (Quo_gr QQ5.out g)
  have BB6 := Lib.hid (BB5.out.trans (Bt.of_gr g))
  have KR6 := Lib.hid ((g.block _ (Array.getElem?_eq_some_iff.1 KR5.out).1).trans KR5.out)
  have KT6 := Lib.hid ((g.block _ (Array.getElem?_eq_some_iff.1 KT5.out).1).trans KT5.out)
  clear g SS5 QQ5 BB5 KR5 KT5 HT1 q0 q1 q2
  have k2 : w6.cell? ⟨w.heap.size + 1, 3, none⟩ = some (.string ⟨#[]⟩) := by rw [(cellsOf KT6.out).1]; rfl
  have kf : ∀ j, w6.frozen? ⟨w.heap.size + 1, j, none⟩ = false := (cellsOf KT6.out).2
  go_wp2_with fail
  have BS : But (w.heap.size + 1) w6 (w6.setCell ⟨w.heap.size + 1, 3, none⟩ (.string ⟨(plL o2 raw2).toArray⟩)) := But.set 3 _
  have SS7 := Lib.hid (SS6.out.but BS (by omega) (by omega))
  have QQ7 := Lib.hid (Quo_any QQ6.out BS (by omega))
  have BB7 := Lib.hid (BB6.out.late (by omega) BS)
  have KR7 := Lib.hid ((BS.block _ (Array.getElem?_eq_some_iff.1 KR6.out).1 (by simp)).trans KR6.out)
  have KT7 : Hid ((w6.setCell ⟨w.heap.size + 1, 3, none⟩ (.string ⟨(plL o2 raw2).toArray⟩)).heap[w.heap.size + 1]? = some (.cells #[.int .i64 9, .int .i64 0, .string ⟨(plL o raw).toArray⟩, .string ⟨(plL o2 raw2).toArray⟩, .string ⟨#[]⟩, .int .i64 0] 32 (0, 0))) := Lib.hid (by
    have := KT6.out
    simp [World.setCell, Array.getElem?_modify, this])
  clear BS SS6 QQ6 BB6 KR6 KT6 k2 kf
  generalize w6.setCell ⟨w.heap.size + 1, 3, none⟩ (.string ⟨(plL o2 raw2).toArray⟩) = X7 at *
  refine (HF.out _ SS7.out QQ7.out).mono ?_
  rintro e8 w8 ⟨b3, rfl, hS, hb, hR3, hab3, hbl3⟩
  have SS8 := Lib.hid hS
  have QQ8 := Lib.hid (QQ7.out.but hb hQP)
  have BB8 := Lib.hid (BB7.out.trans (Bt.of_but hb))
  have KR8 := Lib.hid ((hb.block _ (Array.getElem?_eq_some_iff.1 KR7.out).1 (by simp; omega)).trans KR7.out)
  have KT8 := Lib.hid ((hb.block _ (Array.getElem?_eq_some_iff.1 KT7.out).1 (by simp; omega)).trans KT7.out)
  clear hS hb SS7 QQ7 BB7 KR7 KT7 HF
  have HR3 := Lib.hid hR3
  have Hbl3 := Lib.hid hbl3
  have Ha3 : Hid (at_ < b3) := Lib.hid (by have := Ha1.out; have := Hab2.out; omega)
  clear hR3 hab3 hbl3
  have k2 : w8.cell? ⟨w.heap.size + 1, 4, none⟩ = some (.string ⟨#[]⟩) := by rw [(cellsOf KT8.out).1]; rfl
  have kf : ∀ j, w8.frozen? ⟨w.heap.size + 1, j, none⟩ = false := (cellsOf KT8.out).2
  have BS : But (w.heap.size + 1) w8 (w8.setCell ⟨w.heap.size + 1, 4, none⟩ (.string ⟨((byt R2).take (flagS R2 flagsT)).toArray⟩)) := But.set 4 _
  have SS9 := Lib.hid (SS8.out.but BS (by omega) (by omega))
  have QQ9 := Lib.hid (Quo_any QQ8.out BS (by omega))
  have BB9 := Lib.hid (BB8.out.late (by omega) BS)
  have KR9 := Lib.hid ((BS.block _ (Array.getElem?_eq_some_iff.1 KR8.out).1 (by simp)).trans KR8.out)
  have KT9 : Hid ((w8.setCell ⟨w.heap.size + 1, 4, none⟩ (.string ⟨((byt R2).take (flagS R2 flagsT)).toArray⟩)).heap[w.heap.size + 1]? = some (.cells #[.int .i64 9, .int .i64 0, .string ⟨(plL o raw).toArray⟩, .string ⟨(plL o2 raw2).toArray⟩, .string ⟨((byt R2).take (flagS R2 flagsT)).toArray⟩, .int .i64 0] 32 (0, 0))) := Lib.hid (by
    have := KT8.out
    simp [World.setCell, Array.getElem?_modify, this])
  clear BS SS8 QQ8 BB8 KR8 KT8
  go_wp2_with (first | (refine wpList_load_row rfl 32 (.tmp 5) rfl (w.heap.size + 1) rfl 32 #[.int .i64 9, .int .i64 0, .string ⟨(plL o raw).toArray⟩, .string ⟨(plL o2 raw2).toArray⟩, .string ⟨((byt R2).take (flagS R2 flagsT)).toArray⟩, .int .i64 0] (0, 0) _ KT9.out Tryd.underlying32 rfl (by rw [tokInfo]; rfl) ?_) | (refine wpList_store_tok rfl (.tmp 4) (.tmp 98) rfl (t := ⟨9, 0, ⟨(plL o raw).toArray⟩, ⟨(plL o2 raw2).toArray⟩, ⟨((byt R2).take (flagS R2 flagsT)).toArray⟩, 0⟩) rfl rfl KR9.out rfl ?_))
  intro W7 hb7 hk7
  have B7 := Lib.hid hb7
  have K7 := Lib.hid hk7
  clear hb7 hk7
  go_wp2_with fail
  refine bodyPost_ret (results_tok rfl rfl K7.out) rfl ?_
  exact ⟨b3, rfl, SS9.out.but B7.out (by omega) (by omega), BB9.out.late (Nat.le_refl _) B7.out, HR3.out, Ha3.out, Hbl3.out⟩
end Go.Proofs.YthmopindibdhnaaDoor.G
