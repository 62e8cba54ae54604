/- GHd -/
import Derived.Test.YthmopindibdhnaaDoorM15
namespace Go.Proofs.YthmopindibdhnaaDoor.G
open Go.RowKit Go.Shelf Go.Maps
variable {w : World} {P : Nat} {M : GoMap} {s : ByteArray} {at_ en : Nat} {tm : Bool} {tv bv ov : Value}
set_option maxRecDepth 100000 in
set_option maxHeartbeats 1000000 in
theorem heredoc_no (h : Sc w P M s at_ en tm tv bv ov) (hat : at_ ≤ s.size) (hn : Lib.hasPrefix (s.data.toList.drop at_) [60, 60] = false) :
    Calls Tryd.prog 40 #[.pointer (some ⟨P, 0, none⟩)] w fun e w' => e = .returned (.tuple #[tok0.val, .bool false]) ∧ Sc w' P M s at_ en tm tv bv ov ∧ But P w w' := by
  have H := Lib.hid h
  have hcp := cutNo (s.extract at_ s.size) ⟨#[60, 60]⟩ (by rw [dropE]; exact hn)
  generalize (⟨(Lib.trimPrefix (s.extract at_ s.size).data.toList (⟨#[60, 60]⟩ : ByteArray).data.toList).toArray⟩ : ByteArray) = cut at hcp
  have HC := Lib.hid hcp
  have b0 : (at_ : Int) ≤ (s.size : Int) := by omega
  have hP : P < w.heap.size := h.lt.1
  have hM : M.blk < w.heap.size := h.lt.2
  clear h hn hcp
  go_enter Tryd.func40, Tryd.ntmps40
  go_wp2_with fail
  generalize hW : w.alloc (.cells #[.int .i64 0, .int .i64 0, .string ⟨#[]⟩, .string ⟨#[]⟩, .string ⟨#[]⟩, .int .i64 0] 32) = W1
  have G1 : Hid (Gr w W1) := Lib.hid (by rw [← hW]; exact (Gr.refl w).alloc _)
  have K1 : Hid (W1.heap[w.heap.size]? = some (.cells #[.int .i64 0, .int .i64 0, .string ⟨#[]⟩, .string ⟨#[]⟩, .string ⟨#[]⟩, .int .i64 0] 32 (0, 0))) := Lib.hid (by rw [← hW]; exact heap_alloc_new w _)
  clear hW
  obtain ⟨c0, c1, c2, c3, c4, c5, c6, c7, cf⟩ := (H.out.gr G1.out).cells
  go_quiet ((go_at_call 52; exact quiet_at (HC.out _)))
  clear c0 c1 c2 c3 c4 c5 c6 c7 cf
  go_wp2_with (refine wpList_store_tok rfl (.tmp 2) (.tmp 24) rfl (t := tok0) rfl rfl K1.out rfl ?_)
  intro W3 hb3 hk3
  have B3 := Lib.hid hb3
  have K3 := Lib.hid hk3
  clear hb3 hk3
  go_wp2_with fail
  refine bodyPost_ret (results_tokB rfl rfl K3.out rfl) rfl ?_
  exact ⟨rfl, (H.out.gr (G1.out.drewN _)).but B3.out (by omega) (by omega), (But.of_gr (G1.out.drewN _)).late (Nat.le_refl _) B3.out⟩
section
variable {l : List UInt8} {J : Nat → Option Nat} {a : Nat}
theorem line3 (hJ : JOk l J) (a : Nat) (hal : a ≤ l.length) : LEq (l.drop a) (byt (rest l J a)) (lineOf l a).length ∧ ∀ i, i ≤ (lineOf l a).length → (rest l J a).drop i = rest l J (a + i) := by
  obtain ⟨m, ⟨h1, h2⟩, h3⟩ := line hJ a
  have hll := line_le l a hal
  have hm : (lineOf l a).length ≤ m := by
    rcases h2 with h2 | h2
    · have := List.getElem?_eq_none_iff.1 h2
      rw [List.length_drop] at this; omega
    · rw [List.getElem?_drop] at h2
      by_cases hlt : a + (lineOf l a).length < l.length
      · obtain ⟨_, hno⟩ := eol_some hlt
        apply Classical.byContradiction
        intro hn
        exact hno (a + m) (by omega) (by omega) h2
      · exact absurd h2 (eol_none hlt (by omega))
  refine ⟨⟨fun i hi => h1 i (by omega), ?_⟩, fun i hi => h3 i (by omega)⟩
  rw [List.getElem?_drop]
  by_cases hlt : a + (lineOf l a).length < l.length
  · exact .inr (eol_some hlt).1
  · exact .inl (List.getElem?_eq_none (by omega))
theorem eol_shift : ∀ n a, a + n ≤ l.length → n ≤ (lineOf l a).length → a + (lineOf l a).length = a + n + (lineOf l (a + n)).length
  | 0, _, _, _ => rfl
  | n + 1, a, h, hn => by
    have ha : a < l.length := by omega
    have h10 : l[a] ≠ 10 := fun e => by
      have : lineOf l a = [] := by unfold lineOf; rw [List.drop_eq_getElem_cons ha, List.takeWhile_cons, e]; rfl
      rw [this] at hn; simp at hn
    have hl : lineOf l a = l[a] :: lineOf l (a + 1) := by
      unfold lineOf
      rw [List.drop_eq_getElem_cons ha, List.takeWhile_cons, if_pos (by simpa using h10)]
    have := eol_shift n (a + 1) (by omega) (by rw [hl] at hn; simp at hn; omega)
    rw [hl, List.length_cons]
    rw [show a + (n + 1) = a + 1 + n by omega]
    omega
end
theorem hwL_len (l : List UInt8) : (hwL l).1.length ≤ l.length := by
  have hsp : ∀ q p, splitC q (l.drop 1) = some p → p.1.length ≤ l.length := fun q p h => by
    obtain ⟨a, b⟩ := p
    have := congrArg List.length (splitC_some h).1
    rw [List.length_drop, List.length_append, List.length_cons] at this
    show a.length ≤ l.length
    omega
  unfold hwL
  split
  · cases h : splitC 39 (l.drop 1) with
    | none => exact Nat.zero_le _
    | some p => exact hsp 39 p h
  · split
    · cases h : splitC 34 (l.drop 1) with
      | none => exact Nat.zero_le _
      | some p => exact hsp 34 p h
    · show (l.take (wordN l)).length ≤ l.length
      rw [List.length_take]; omega
set_option maxRecDepth 100000 in
set_option maxHeartbeats 2000000 in
theorem here_none (h : Sc w P M s at_ en tm tv bv ov) (hs : s.size ≤ 4000) (hat : at_ < s.size) (hp : Lib.hasPrefix (s.data.toList.drop at_) [60, 60] = true) (hW : isW (hwL (s.data.toList.drop (at_ + 2))).1 = false) :
    Calls Tryd.prog 40 #[.pointer (some ⟨P, 0, none⟩)] w fun e w' => e = .returned (.tuple #[tok0.val, .bool false]) ∧ Sc w' P M s at_ en tm tv bv ov ∧ But P w w' := by
  have H := Lib.hid h
  obtain ⟨r0, hr0⟩ : ∃ r0 : ByteArray, r0 = ⟨(s.data.toList.drop (at_ + 2)).toArray⟩ := ⟨_, rfl⟩
  have hrl : r0.data.toList = s.data.toList.drop (at_ + 2) := by rw [hr0]
  have hrs : r0.size ≤ 4000 := by rw [← sizeL, hrl, List.length_drop, sizeL]; omega
  have HC := Lib.hid (fun w => cutp_any (s.extract at_ s.size) ⟨#[60, 60]⟩ w)
  rw [dropE, show (⟨#[60, 60]⟩ : ByteArray).data.toList = [60, 60] from rfl, hp, show Lib.trimPrefix (s.data.toList.drop at_) [60, 60] = s.data.toList.drop (at_ + 2) by unfold Lib.trimPrefix; rw [hp]; simp [List.drop_drop], ← hr0] at HC
  have HHw := Lib.hid (fun w => hw_p r0 (by omega) w)
  rw [hrl] at HHw
  generalize hY : hwL (s.data.toList.drop (at_ + 2)) = Y at *
  obtain ⟨wd, mk⟩ := Y
  obtain ⟨wb, hwb⟩ : ∃ wb : ByteArray, wb = ⟨wd.toArray⟩ := ⟨_, rfl⟩
  obtain ⟨mb, hmb⟩ : ∃ mb : ByteArray, mb = ⟨mk.toArray⟩ := ⟨_, rfl⟩
  have hwl : wb.data.toList = wd := by rw [hwb]
  have hml : mb.data.toList = mk := by rw [hmb]
  simp only at HHw hW
  rw [← hwb, ← hmb] at HHw
  have HIW := Lib.hid (fun w => isWord_p wb (by have h1 := hwL_len (s.data.toList.drop (at_ + 2)); rw [hY] at h1; simp only at h1; rw [List.length_drop, sizeL] at h1; rw [← sizeL, hwl]; omega) w)
  rw [hwl, hW] at HIW
  have b0 : (at_ : Int) ≤ (s.size : Int) := by omega
  have hP : P < w.heap.size := h.lt.1
  have hM : M.blk < w.heap.size := h.lt.2
  clear h hp hW hY hrl hrs hr0 hwl hml hwb hmb
  go_enter Tryd.func40, Tryd.ntmps40
  go_wp2_with fail
  generalize hW : w.alloc (.cells #[.int .i64 0, .int .i64 0, .string ⟨#[]⟩, .string ⟨#[]⟩, .string ⟨#[]⟩, .int .i64 0] 32) = W1
  have G1 : Hid (Gr w W1) := Lib.hid (by rw [← hW]; exact (Gr.refl w).alloc _)
  have K1 : Hid (W1.heap[w.heap.size]? = some (.cells #[.int .i64 0, .int .i64 0, .string ⟨#[]⟩, .string ⟨#[]⟩, .string ⟨#[]⟩, .int .i64 0] 32 (0, 0))) := Lib.hid (by rw [← hW]; exact heap_alloc_new w _)
  clear hW
  obtain ⟨c0, c1, c2, c3, c4, c5, c6, c7, cf⟩ := (H.out.gr G1.out).cells
  go_quiet ((go_at_call 52; exact quiet_at (HC.out _)))
  clear c0 c1 c2 c3 c4 c5 c6 c7 cf
  have G2 := Lib.hid (G1.out.drewN nq)
  have K2 := Lib.hid (show (W1.drewN nq).heap[w.heap.size]? = some (.cells #[.int .i64 0, .int .i64 0, .string ⟨#[]⟩, .string ⟨#[]⟩, .string ⟨#[]⟩, .int .i64 0] 32 (0, 0)) from K1.out)
  generalize W1.drewN nq = W2 at *
  go_wp2_with fail
  refine (HHw.out _).mono ?_
  rintro e w3 ⟨rfl, g3⟩
  have G3 := Lib.hid (Gr.trans G2.out g3)
  have K3 := Lib.hid ((g3.block _ (Array.getElem?_eq_some_iff.1 K2.out).1).trans K2.out)
  clear g3 G2 K2 G1 K1
  go_wp2_with fail
  refine (HIW.out _).mono ?_
  rintro e w4 ⟨rfl, rfl⟩
  go_wp2_with (refine wpList_store_tok rfl (.tmp 2) (.tmp 33) rfl (t := tok0) rfl rfl K3.out rfl ?_)
  intro W5 hb5 hk5
  have B5 := Lib.hid hb5
  have K5 := Lib.hid hk5
  clear hb5 hk5
  go_wp2_with fail
  refine bodyPost_ret (results_tokB rfl rfl K5.out rfl) rfl ?_
  exact ⟨rfl, (H.out.gr G3.out).but B5.out (by omega) (by omega), (But.of_gr G3.out).late (Nat.le_refl _) B5.out⟩
set_option maxRecDepth 100000 in
set_option maxHeartbeats 2000000 in
theorem here_bad1 (h : Sc w P M s at_ en tm tv bv ov) (hs : s.size ≤ 4000) (hat : at_ < s.size) (hp : Lib.hasPrefix (s.data.toList.drop at_) [60, 60] = true) (hW : isW (hwL (s.data.toList.drop (at_ + 2))).1 = true) (hE : ¬ at_ + (lineOf s.data.toList at_).length < s.data.toList.length) :
    Calls Tryd.prog 40 #[.pointer (some ⟨P, 0, none⟩)] w fun e w' => Bad s e ∧ Bt P M.blk w w' := by
  have H := Lib.hid h
  obtain ⟨r0, hr0⟩ : ∃ r0 : ByteArray, r0 = ⟨(s.data.toList.drop (at_ + 2)).toArray⟩ := ⟨_, rfl⟩
  have hrl : r0.data.toList = s.data.toList.drop (at_ + 2) := by rw [hr0]
  have hrs : r0.size ≤ 4000 := by rw [← sizeL, hrl, List.length_drop, sizeL]; omega
  have HC := Lib.hid (fun w => cutp_any (s.extract at_ s.size) ⟨#[60, 60]⟩ w)
  rw [dropE, show (⟨#[60, 60]⟩ : ByteArray).data.toList = [60, 60] from rfl, hp, show Lib.trimPrefix (s.data.toList.drop at_) [60, 60] = s.data.toList.drop (at_ + 2) by unfold Lib.trimPrefix; rw [hp]; simp [List.drop_drop], ← hr0] at HC
  have HHw := Lib.hid (fun w => hw_p r0 (by omega) w)
  rw [hrl] at HHw
  generalize hY : hwL (s.data.toList.drop (at_ + 2)) = Y at *
  obtain ⟨wd, mk⟩ := Y
  obtain ⟨wb, hwb⟩ : ∃ wb : ByteArray, wb = ⟨wd.toArray⟩ := ⟨_, rfl⟩
  obtain ⟨mb, hmb⟩ : ∃ mb : ByteArray, mb = ⟨mk.toArray⟩ := ⟨_, rfl⟩
  have hwl : wb.data.toList = wd := by rw [hwb]
  have hml : mb.data.toList = mk := by rw [hmb]
  simp only at HHw hW
  rw [← hwb, ← hmb] at HHw
  have HIW := Lib.hid (fun w => isWord_p wb (by have h1 := hwL_len (s.data.toList.drop (at_ + 2)); rw [hY] at h1; simp only at h1; rw [List.length_drop, sizeL] at h1; rw [← sizeL, hwl]; omega) w)
  rw [hwl, hW] at HIW
  have b0 : (at_ : Int) ≤ (s.size : Int) := by omega
  have hP : P < w.heap.size := h.lt.1
  have hM : M.blk < w.heap.size := h.lt.2
  have HL := Lib.hid (fun (W : World) (hS : Sc W P M s at_ en tm tv bv ov) => lines_no hS hat hE wb)
  clear h hp hW hY hrl hrs hr0 hwl hml hwb hmb hE
  go_enter Tryd.func40, Tryd.ntmps40
  go_wp2_with fail
  generalize hW : w.alloc (.cells #[.int .i64 0, .int .i64 0, .string ⟨#[]⟩, .string ⟨#[]⟩, .string ⟨#[]⟩, .int .i64 0] 32) = W1
  have G1 : Hid (Gr w W1) := Lib.hid (by rw [← hW]; exact (Gr.refl w).alloc _)
  have K1 : Hid (W1.heap[w.heap.size]? = some (.cells #[.int .i64 0, .int .i64 0, .string ⟨#[]⟩, .string ⟨#[]⟩, .string ⟨#[]⟩, .int .i64 0] 32 (0, 0))) := Lib.hid (by rw [← hW]; exact heap_alloc_new w _)
  clear hW
  obtain ⟨c0, c1, c2, c3, c4, c5, c6, c7, cf⟩ := (H.out.gr G1.out).cells
  go_quiet ((go_at_call 52; exact quiet_at (HC.out _)))
  clear c0 c1 c2 c3 c4 c5 c6 c7 cf
  have G2 := Lib.hid (G1.out.drewN nq)
  have K2 := Lib.hid (show (W1.drewN nq).heap[w.heap.size]? = some (.cells #[.int .i64 0, .int .i64 0, .string ⟨#[]⟩, .string ⟨#[]⟩, .string ⟨#[]⟩, .int .i64 0] 32 (0, 0)) from K1.out)
  generalize W1.drewN nq = W2 at *
  go_wp2_with fail
  refine (HHw.out _).mono ?_
  rintro e w3 ⟨rfl, g3⟩
  have G3 := Lib.hid (Gr.trans G2.out g3)
  have K3 := Lib.hid ((g3.block _ (Array.getElem?_eq_some_iff.1 K2.out).1).trans K2.out)
  clear g3 G2 K2 G1 K1
  go_wp2_with fail
  refine (HIW.out _).mono ?_
  rintro e w4 ⟨rfl, rfl⟩
  go_wp2_with fail
  refine (HL.out _ (H.out.gr G3.out)).mono ?_
  rintro e w5 ⟨⟨q, hq, rfl⟩, hb⟩
  go_wp2_with fail
  exact ⟨rfl, ⟨q, hq, rfl⟩, (Bt.of_gr G3.out).trans (Bt.of_gr hb)⟩
set_option maxRecDepth 100000 in
set_option maxHeartbeats 2000000 in
theorem here_bad2 (h : Sc w P M s at_ en tm tv bv ov) (hs : s.size ≤ 4000) (hat : at_ < s.size) (hp : Lib.hasPrefix (s.data.toList.drop at_) [60, 60] = true) (hW : isW (hwL (s.data.toList.drop (at_ + 2))).1 = true) (hJ : JOk s.data.toList M.J) (hMn : M.n ≤ 4000) (E : Nat) (hE : E = at_ + (lineOf s.data.toList at_).length) (hEl : E < s.data.toList.length) (f0 : Nat) (hf0 : s.data.toList.length < nx M.J E + f0) (hX : linesA s.data.toList (hwL (s.data.toList.drop (at_ + 2))).1 f0 (nx M.J E) = none) :
    Calls Tryd.prog 40 #[.pointer (some ⟨P, 0, none⟩)] w fun e w' => Bad s e ∧ Bt P M.blk w w' := by
  have H := Lib.hid h
  obtain ⟨r0, hr0⟩ : ∃ r0 : ByteArray, r0 = ⟨(s.data.toList.drop (at_ + 2)).toArray⟩ := ⟨_, rfl⟩
  have hrl : r0.data.toList = s.data.toList.drop (at_ + 2) := by rw [hr0]
  have hrs : r0.size ≤ 4000 := by rw [← sizeL, hrl, List.length_drop, sizeL]; omega
  have HC := Lib.hid (fun w => cutp_any (s.extract at_ s.size) ⟨#[60, 60]⟩ w)
  rw [dropE, show (⟨#[60, 60]⟩ : ByteArray).data.toList = [60, 60] from rfl, hp, show Lib.trimPrefix (s.data.toList.drop at_) [60, 60] = s.data.toList.drop (at_ + 2) by unfold Lib.trimPrefix; rw [hp]; simp [List.drop_drop], ← hr0] at HC
  have HHw := Lib.hid (fun w => hw_p r0 (by omega) w)
  rw [hrl] at HHw
  generalize hY : hwL (s.data.toList.drop (at_ + 2)) = Y at *
  obtain ⟨wd, mk⟩ := Y
  obtain ⟨wb, hwb⟩ : ∃ wb : ByteArray, wb = ⟨wd.toArray⟩ := ⟨_, rfl⟩
  obtain ⟨mb, hmb⟩ : ∃ mb : ByteArray, mb = ⟨mk.toArray⟩ := ⟨_, rfl⟩
  have hwl : wb.data.toList = wd := by rw [hwb]
  have hml : mb.data.toList = mk := by rw [hmb]
  simp only at HHw hW
  rw [← hwb, ← hmb] at HHw
  have HIW := Lib.hid (fun w => isWord_p wb (by have h1 := hwL_len (s.data.toList.drop (at_ + 2)); rw [hY] at h1; simp only at h1; rw [List.length_drop, sizeL] at h1; rw [← sizeL, hwl]; omega) w)
  rw [hwl, hW] at HIW
  have b0 : (at_ : Int) ≤ (s.size : Int) := by omega
  have hP : P < w.heap.size := h.lt.1
  have hM : M.blk < w.heap.size := h.lt.2
  have HL := Lib.hid (fun (W : World) (hS : Sc W P M s at_ en tm tv bv ov) => lines_g hS hs hat hJ hMn E hE hEl wb none f0 hf0 (by rw [hwl]; exact hX.symm))
  clear h hp hW hY hrl hrs hr0 hwl hml hwb hmb hE hJ hMn hEl hf0 hX
  go_enter Tryd.func40, Tryd.ntmps40
  go_wp2_with fail
  generalize hW : w.alloc (.cells #[.int .i64 0, .int .i64 0, .string ⟨#[]⟩, .string ⟨#[]⟩, .string ⟨#[]⟩, .int .i64 0] 32) = W1
  have G1 : Hid (Gr w W1) := Lib.hid (by rw [← hW]; exact (Gr.refl w).alloc _)
  have K1 : Hid (W1.heap[w.heap.size]? = some (.cells #[.int .i64 0, .int .i64 0, .string ⟨#[]⟩, .string ⟨#[]⟩, .string ⟨#[]⟩, .int .i64 0] 32 (0, 0))) := Lib.hid (by rw [← hW]; exact heap_alloc_new w _)
  clear hW
  obtain ⟨c0, c1, c2, c3, c4, c5, c6, c7, cf⟩ := (H.out.gr G1.out).cells
  go_quiet ((go_at_call 52; exact quiet_at (HC.out _)))
  clear c0 c1 c2 c3 c4 c5 c6 c7 cf
  have G2 := Lib.hid (G1.out.drewN nq)
  have K2 := Lib.hid (show (W1.drewN nq).heap[w.heap.size]? = some (.cells #[.int .i64 0, .int .i64 0, .string ⟨#[]⟩, .string ⟨#[]⟩, .string ⟨#[]⟩, .int .i64 0] 32 (0, 0)) from K1.out)
  generalize W1.drewN nq = W2 at *
  go_wp2_with fail
  refine (HHw.out _).mono ?_
  rintro e w3 ⟨rfl, g3⟩
  have G3 := Lib.hid (Gr.trans G2.out g3)
  have K3 := Lib.hid ((g3.block _ (Array.getElem?_eq_some_iff.1 K2.out).1).trans K2.out)
  clear g3 G2 K2 G1 K1
  go_wp2_with fail
  refine (HIW.out _).mono ?_
  rintro e w4 ⟨rfl, rfl⟩
  go_wp2_with fail
  refine (HL.out _ (H.out.gr G3.out)).mono ?_
  rintro e w5 ⟨⟨q, hq, rfl⟩, hb⟩
  go_wp2_with fail
  exact ⟨rfl, ⟨q, hq, rfl⟩, (Bt.of_gr G3.out).trans hb⟩
set_option maxRecDepth 100000 in
set_option maxHeartbeats 2000000 in
theorem here_ok4 (h : Sc w P M s at_ en tm tv bv ov) (hs : s.size ≤ 4000) (hat : at_ < s.size) (hp : Lib.hasPrefix (s.data.toList.drop at_) [60, 60] = true) (hW : isW (hwL (s.data.toList.drop (at_ + 2))).1 = true) (hJ : JOk s.data.toList M.J) (hMn : M.n ≤ 4000) (E : Nat) (hE : E = at_ + (lineOf s.data.toList at_).length) (hEl : E < s.data.toList.length) (f0 : Nat) (hf0 : s.data.toList.length < nx M.J E + f0) (r : Nat × Nat) (hX : linesA s.data.toList (hwL (s.data.toList.drop (at_ + 2))).1 f0 (nx M.J E) = some r) (n : Nat) (hn : n = 2 + (2 * (hwL (s.data.toList.drop (at_ + 2))).2.length + (hwL (s.data.toList.drop (at_ + 2))).1.length)) (hnl : at_ + n ≤ s.data.toList.length) (hmk : (hwL (s.data.toList.drop (at_ + 2))).2 = [39]) :
    Calls Tryd.prog 40 #[.pointer (some ⟨P, 0, none⟩)] w fun e w' => e = .returned (.tuple #[(tok 4 ⟨((s.data.toList.drop (nx M.J E)).take (r.1 - nx M.J E)).toArray⟩).val, .bool true]) ∧ Sc w' P ⟨M.blk, M.n + 1, jput M.J E r.2⟩ s (at_ + n) en tm tv bv ov ∧ Bt P M.blk w w' := by
  have H := Lib.hid h
  obtain ⟨r0, hr0⟩ : ∃ r0 : ByteArray, r0 = ⟨(s.data.toList.drop (at_ + 2)).toArray⟩ := ⟨_, rfl⟩
  have hrl : r0.data.toList = s.data.toList.drop (at_ + 2) := by rw [hr0]
  have hrs : r0.size ≤ 4000 := by rw [← sizeL, hrl, List.length_drop, sizeL]; omega
  have HC := Lib.hid (fun w => cutp_any (s.extract at_ s.size) ⟨#[60, 60]⟩ w)
  rw [dropE, show (⟨#[60, 60]⟩ : ByteArray).data.toList = [60, 60] from rfl, hp, show Lib.trimPrefix (s.data.toList.drop at_) [60, 60] = s.data.toList.drop (at_ + 2) by unfold Lib.trimPrefix; rw [hp]; simp [List.drop_drop], ← hr0] at HC
  have HHw := Lib.hid (fun w => hw_p r0 (by omega) w)
  rw [hrl] at HHw
  generalize hY : hwL (s.data.toList.drop (at_ + 2)) = Y at *
  obtain ⟨wd, mk⟩ := Y
  obtain ⟨wb, hwb⟩ : ∃ wb : ByteArray, wb = ⟨wd.toArray⟩ := ⟨_, rfl⟩
  obtain ⟨mb, hmb⟩ : ∃ mb : ByteArray, mb = ⟨mk.toArray⟩ := ⟨_, rfl⟩
  have hwl : wb.data.toList = wd := by rw [hwb]
  have hml : mb.data.toList = mk := by rw [hmb]
  simp only at HHw hW
  rw [← hwb, ← hmb] at HHw
  have HIW := Lib.hid (fun w => isWord_p wb (by have h1 := hwL_len (s.data.toList.drop (at_ + 2)); rw [hY] at h1; simp only at h1; rw [List.length_drop, sizeL] at h1; rw [← sizeL, hwl]; omega) w)
  rw [hwl, hW] at HIW
  have b0 : (at_ : Int) ≤ (s.size : Int) := by omega
  have hP : P < w.heap.size := h.lt.1
  have hM : M.blk < w.heap.size := h.lt.2
  have HL := Lib.hid (fun (W : World) (hS : Sc W P M s at_ en tm tv bv ov) => (show Calls Tryd.prog 55 #[.pointer (some ⟨P, 0, none⟩), .string wb] W fun e w' => e = .returned (.string ⟨((s.data.toList.drop (nx M.J E)).take (r.1 - nx M.J E)).toArray⟩) ∧ Sc w' P ⟨M.blk, M.n + 1, jput M.J E r.2⟩ s at_ en tm tv bv ov ∧ Bt P M.blk W w' from lines_g hS hs hat hJ hMn E hE hEl wb (some r) f0 hf0 (by rw [hwl]; exact hX.symm)))
  have hmn : (2 : Int) + (mb.size : Int) + (wb.size : Int) + (mb.size : Int) = (n : Int) := by
    have h1 : mb.size = mk.length := by rw [← sizeL, hml]
    have h2 : wb.size = wd.length := by rw [← sizeL, hwl]
    simp only at hn; omega
  rw [sizeL] at hnl
  obtain ⟨b, hb⟩ : ∃ b, b = at_ + n := ⟨_, rfl⟩
  have hbn : (at_ : Int) + (n : Int) = (b : Int) := by omega
  rw [← hb]
  have m1 : (2 : Int) + (mb.size : Int) ≤ 9223372036854775807 := by omega
  have m2 : -9223372036854775808 ≤ (2 : Int) + (mb.size : Int) := by omega
  have m3 : (2 : Int) + (mb.size : Int) + (wb.size : Int) ≤ 9223372036854775807 := by omega
  have m4 : -9223372036854775808 ≤ (2 : Int) + (mb.size : Int) + (wb.size : Int) := by omega
  have m5 : (n : Int) ≤ 9223372036854775807 := by omega
  have m6 : -9223372036854775808 ≤ (n : Int) := by omega
  have m7 : (b : Int) ≤ 9223372036854775807 := by omega
  have m8 : -9223372036854775808 ≤ (b : Int) := by omega
  have hmq : (mb.toList == [39]) = true := by rw [ByteArray.toList_eq, hml]; simp only at hmk; rw [hmk]; rfl
  have HIN : Hid (((s.data.toList.drop (nx M.J E)).take (r.1 - nx M.J E)).length ≤ 100000) := Lib.hid (by rw [List.length_take, List.length_drop, sizeL]; omega)
  generalize (s.data.toList.drop (nx M.J E)).take (r.1 - nx M.J E) = body at *
  clear h hp hW hY hrl hrs hr0 hwl hml hwb hmb hE hJ hMn hEl hf0 hX hn hnl hb hmk
  go_enter Tryd.func40, Tryd.ntmps40
  go_wp2_with fail
  generalize hW : w.alloc (.cells #[.int .i64 0, .int .i64 0, .string ⟨#[]⟩, .string ⟨#[]⟩, .string ⟨#[]⟩, .int .i64 0] 32) = W1
  have G1 : Hid (Gr w W1) := Lib.hid (by rw [← hW]; exact (Gr.refl w).alloc _)
  have K1 : Hid (W1.heap[w.heap.size]? = some (.cells #[.int .i64 0, .int .i64 0, .string ⟨#[]⟩, .string ⟨#[]⟩, .string ⟨#[]⟩, .int .i64 0] 32 (0, 0))) := Lib.hid (by rw [← hW]; exact heap_alloc_new w _)
  clear hW
  obtain ⟨c0, c1, c2, c3, c4, c5, c6, c7, cf⟩ := (H.out.gr G1.out).cells
  go_quiet ((go_at_call 52; exact quiet_at (HC.out _)))
  clear c0 c1 c2 c3 c4 c5 c6 c7 cf
  have G2 := Lib.hid (G1.out.drewN nq)
  have K2 := Lib.hid (show (W1.drewN nq).heap[w.heap.size]? = some (.cells #[.int .i64 0, .int .i64 0, .string ⟨#[]⟩, .string ⟨#[]⟩, .string ⟨#[]⟩, .int .i64 0] 32 (0, 0)) from K1.out)
  generalize W1.drewN nq = W2 at *
  go_wp2_with fail
  refine (HHw.out _).mono ?_
  rintro e w3 ⟨rfl, g3⟩
  have G3 := Lib.hid (Gr.trans G2.out g3)
  have K3 := Lib.hid ((g3.block _ (Array.getElem?_eq_some_iff.1 K2.out).1).trans K2.out)
  clear g3 G2 K2 G1 K1
  go_wp2_with fail
  refine (HIW.out _).mono ?_
  rintro e w4 ⟨rfl, rfl⟩
  go_wp2_with fail
  refine (HL.out _ (H.out.gr G3.out)).mono ?_
  rintro e w5 ⟨rfl, hS5, hb5⟩
  have S5 := Lib.hid hS5
  have K5 := Lib.hid ((hb5.block _ (Array.getElem?_eq_some_iff.1 K3.out).1 (by omega) (by omega)).trans K3.out)
  have B5 := Lib.hid ((Bt.of_gr (A := P) (B := M.blk) G3.out).trans hb5)
  clear hS5 hb5 K3 G3 HL
  obtain ⟨c0, c1, c2, c3, c4, c5, c6, c7, cf⟩ := S5.out.cells
  have BS : But P w5 (w5.setCell ⟨P, 1, none⟩ (.int .i64 (b : Int))) := But.set 1 _
  have S7 := Lib.hid (S5.out.setAt b)
  have K7 := Lib.hid ((BS.block _ (Array.getElem?_eq_some_iff.1 K5.out).1 (by simp; omega)).trans K5.out)
  have B7 := Lib.hid (B5.out.trans (Bt.of_but BS))
  clear BS S5 K5 B5
  go_wp2_with (refine wpList_store_tok rfl (.tmp 2) (.tmp 56) rfl (t := tok 4 ⟨body.toArray⟩) rfl rfl K7.out rfl ?_)
  intro W9 hb9 hk9
  have B9 := Lib.hid hb9
  have K9 := Lib.hid hk9
  clear hb9 hk9
  go_wp2_with fail
  refine bodyPost_ret (results_tokB rfl rfl K9.out rfl) rfl ?_
  exact ⟨rfl, S7.out.but B9.out (by omega) (by show M.blk ≠ w.heap.size; omega), B7.out.late (Nat.le_refl _) B9.out⟩
set_option maxRecDepth 100000 in
set_option maxHeartbeats 2000000 in
theorem here_ok5 (h : Sc w P M s at_ en tm tv bv ov) (hs : s.size ≤ 4000) (hat : at_ < s.size) (hp : Lib.hasPrefix (s.data.toList.drop at_) [60, 60] = true) (hW : isW (hwL (s.data.toList.drop (at_ + 2))).1 = true) (hJ : JOk s.data.toList M.J) (hMn : M.n ≤ 4000) (E : Nat) (hE : E = at_ + (lineOf s.data.toList at_).length) (hEl : E < s.data.toList.length) (f0 : Nat) (hf0 : s.data.toList.length < nx M.J E + f0) (r : Nat × Nat) (hX : linesA s.data.toList (hwL (s.data.toList.drop (at_ + 2))).1 f0 (nx M.J E) = some r) (n : Nat) (hn : n = 2 + (2 * (hwL (s.data.toList.drop (at_ + 2))).2.length + (hwL (s.data.toList.drop (at_ + 2))).1.length)) (hnl : at_ + n ≤ s.data.toList.length) (hmk : (hwL (s.data.toList.drop (at_ + 2))).2 ≠ [39]) :
    Calls Tryd.prog 40 #[.pointer (some ⟨P, 0, none⟩)] w fun e w' => e = .returned (.tuple #[(tok 5 ⟨(inL 34 ((s.data.toList.drop (nx M.J E)).take (r.1 - nx M.J E))).toArray⟩).val, .bool true]) ∧ Sc w' P ⟨M.blk, M.n + 1, jput M.J E r.2⟩ s (at_ + n) en tm tv bv ov ∧ Bt P M.blk w w' := by
  have H := Lib.hid h
  obtain ⟨r0, hr0⟩ : ∃ r0 : ByteArray, r0 = ⟨(s.data.toList.drop (at_ + 2)).toArray⟩ := ⟨_, rfl⟩
  have hrl : r0.data.toList = s.data.toList.drop (at_ + 2) := by rw [hr0]
  have hrs : r0.size ≤ 4000 := by rw [← sizeL, hrl, List.length_drop, sizeL]; omega
  have HC := Lib.hid (fun w => cutp_any (s.extract at_ s.size) ⟨#[60, 60]⟩ w)
  rw [dropE, show (⟨#[60, 60]⟩ : ByteArray).data.toList = [60, 60] from rfl, hp, show Lib.trimPrefix (s.data.toList.drop at_) [60, 60] = s.data.toList.drop (at_ + 2) by unfold Lib.trimPrefix; rw [hp]; simp [List.drop_drop], ← hr0] at HC
  have HHw := Lib.hid (fun w => hw_p r0 (by omega) w)
  rw [hrl] at HHw
  generalize hY : hwL (s.data.toList.drop (at_ + 2)) = Y at *
  obtain ⟨wd, mk⟩ := Y
  obtain ⟨wb, hwb⟩ : ∃ wb : ByteArray, wb = ⟨wd.toArray⟩ := ⟨_, rfl⟩
  obtain ⟨mb, hmb⟩ : ∃ mb : ByteArray, mb = ⟨mk.toArray⟩ := ⟨_, rfl⟩
  have hwl : wb.data.toList = wd := by rw [hwb]
  have hml : mb.data.toList = mk := by rw [hmb]
  simp only at HHw hW
  rw [← hwb, ← hmb] at HHw
  have HIW := Lib.hid (fun w => isWord_p wb (by have h1 := hwL_len (s.data.toList.drop (at_ + 2)); rw [hY] at h1; simp only at h1; rw [List.length_drop, sizeL] at h1; rw [← sizeL, hwl]; omega) w)
  rw [hwl, hW] at HIW
  have b0 : (at_ : Int) ≤ (s.size : Int) := by omega
  have hP : P < w.heap.size := h.lt.1
  have hM : M.blk < w.heap.size := h.lt.2
  have HL := Lib.hid (fun (W : World) (hS : Sc W P M s at_ en tm tv bv ov) => (show Calls Tryd.prog 55 #[.pointer (some ⟨P, 0, none⟩), .string wb] W fun e w' => e = .returned (.string ⟨((s.data.toList.drop (nx M.J E)).take (r.1 - nx M.J E)).toArray⟩) ∧ Sc w' P ⟨M.blk, M.n + 1, jput M.J E r.2⟩ s at_ en tm tv bv ov ∧ Bt P M.blk W w' from lines_g hS hs hat hJ hMn E hE hEl wb (some r) f0 hf0 (by rw [hwl]; exact hX.symm)))
  have hmn : (2 : Int) + (mb.size : Int) + (wb.size : Int) + (mb.size : Int) = (n : Int) := by
    have h1 : mb.size = mk.length := by rw [← sizeL, hml]
    have h2 : wb.size = wd.length := by rw [← sizeL, hwl]
    simp only at hn; omega
  rw [sizeL] at hnl
  obtain ⟨b, hb⟩ : ∃ b, b = at_ + n := ⟨_, rfl⟩
  have hbn : (at_ : Int) + (n : Int) = (b : Int) := by omega
  rw [← hb]
  have m1 : (2 : Int) + (mb.size : Int) ≤ 9223372036854775807 := by omega
  have m2 : -9223372036854775808 ≤ (2 : Int) + (mb.size : Int) := by omega
  have m3 : (2 : Int) + (mb.size : Int) + (wb.size : Int) ≤ 9223372036854775807 := by omega
  have m4 : -9223372036854775808 ≤ (2 : Int) + (mb.size : Int) + (wb.size : Int) := by omega
  have m5 : (n : Int) ≤ 9223372036854775807 := by omega
  have m6 : -9223372036854775808 ≤ (n : Int) := by omega
  have m7 : (b : Int) ≤ 9223372036854775807 := by omega
  have m8 : -9223372036854775808 ≤ (b : Int) := by omega
  have hmq : (mb.toList == [39]) = false := by rw [ByteArray.toList_eq, hml]; simpa using hmk
  have HIN : Hid (((s.data.toList.drop (nx M.J E)).take (r.1 - nx M.J E)).length ≤ 100000) := Lib.hid (by rw [List.length_take, List.length_drop, sizeL]; omega)
  generalize (s.data.toList.drop (nx M.J E)).take (r.1 - nx M.J E) = body at *
  clear h hp hW hY hrl hrs hr0 hwl hml hwb hmb hE hJ hMn hEl hf0 hX hn hnl hb hmk
  go_enter Tryd.func40, Tryd.ntmps40
  go_wp2_with fail
  generalize hW : w.alloc (.cells #[.int .i64 0, .int .i64 0, .string ⟨#[]⟩, .string ⟨#[]⟩, .string ⟨#[]⟩, .int .i64 0] 32) = W1
  have G1 : Hid (Gr w W1) := Lib.hid (by rw [← hW]; exact (Gr.refl w).alloc _)
  have K1 : Hid (W1.heap[w.heap.size]? = some (.cells #[.int .i64 0, .int .i64 0, .string ⟨#[]⟩, .string ⟨#[]⟩, .string ⟨#[]⟩, .int .i64 0] 32 (0, 0))) := Lib.hid (by rw [← hW]; exact heap_alloc_new w _)
  clear hW
  obtain ⟨c0, c1, c2, c3, c4, c5, c6, c7, cf⟩ := (H.out.gr G1.out).cells
  go_quiet ((go_at_call 52; exact quiet_at (HC.out _)))
  clear c0 c1 c2 c3 c4 c5 c6 c7 cf
  have G2 := Lib.hid (G1.out.drewN nq)
  have K2 := Lib.hid (show (W1.drewN nq).heap[w.heap.size]? = some (.cells #[.int .i64 0, .int .i64 0, .string ⟨#[]⟩, .string ⟨#[]⟩, .string ⟨#[]⟩, .int .i64 0] 32 (0, 0)) from K1.out)
  generalize W1.drewN nq = W2 at *
  go_wp2_with fail
  refine (HHw.out _).mono ?_
  rintro e w3 ⟨rfl, g3⟩
  have G3 := Lib.hid (Gr.trans G2.out g3)
  have K3 := Lib.hid ((g3.block _ (Array.getElem?_eq_some_iff.1 K2.out).1).trans K2.out)
  clear g3 G2 K2 G1 K1
  go_wp2_with fail
  refine (HIW.out _).mono ?_
  rintro e w4 ⟨rfl, rfl⟩
  go_wp2_with fail
  refine (HL.out _ (H.out.gr G3.out)).mono ?_
  rintro e w5 ⟨rfl, hS5, hb5⟩
  have S5 := Lib.hid hS5
  have K5 := Lib.hid ((hb5.block _ (Array.getElem?_eq_some_iff.1 K3.out).1 (by omega) (by omega)).trans K3.out)
  have B5 := Lib.hid ((Bt.of_gr (A := P) (B := M.blk) G3.out).trans hb5)
  clear hS5 hb5 K3 G3 HL
  obtain ⟨c0, c1, c2, c3, c4, c5, c6, c7, cf⟩ := S5.out.cells
  go_wp2_with fail
  have HIn := Lib.hid (fun w => inter_l body 34 HIN.out w)
  have BS : But P w5 (w5.setCell ⟨P, 1, none⟩ (.int .i64 (b : Int))) := But.set 1 _
  have S6 := Lib.hid (S5.out.setAt b)
  have K6 := Lib.hid ((BS.block _ (Array.getElem?_eq_some_iff.1 K5.out).1 (by simp; omega)).trans K5.out)
  have B6 := Lib.hid (B5.out.trans (Bt.of_but BS))
  clear BS S5 K5 B5 c0 c1 c2 c3 c4 c5 c6 c7 cf
  refine (HIn.out _).mono ?_
  rintro e w7 ⟨rfl, g7⟩
  have S7 := Lib.hid (S6.out.gr g7)
  have K7 := Lib.hid ((g7.block _ (Array.getElem?_eq_some_iff.1 K6.out).1).trans K6.out)
  have B7 := Lib.hid (B6.out.trans (Bt.of_gr g7))
  clear g7 S6 K6 B6
  go_wp2_with (refine wpList_store_tok rfl (.tmp 2) (.tmp 59) rfl (t := tok 5 ⟨(inL 34 body).toArray⟩) rfl rfl K7.out rfl ?_)
  intro W9 hb9 hk9
  have B9 := Lib.hid hb9
  have K9 := Lib.hid hk9
  clear hb9 hk9
  go_wp2_with fail
  refine bodyPost_ret (results_tokB rfl rfl K9.out rfl) rfl ?_
  exact ⟨rfl, S7.out.but B9.out (by omega) (by show M.blk ≠ w.heap.size; omega), B7.out.late (Nat.le_refl _) B9.out⟩
end Go.Proofs.YthmopindibdhnaaDoor.G
