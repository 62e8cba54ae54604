import Derived.Test.YthmopindibdhnaaGreatDoorQ00
import Derived.Test.YthmopindibdhnaaGreatDoorQ05
import Derived.Test.YthmopindibdhnaaGreatDoorQ03
namespace Go.Proofs.YthmopindibdhnaaGreatDoor.G
open Go.RowKit Go.Shelf Go.Maps
variable {w : World} {P : Nat} {M : GoMap} {s : ByteArray} {at_ en : Nat} {tm : Bool} {tv bv ov : Value}
set_option maxRecDepth 100000 in
theorem word_m (h : Sc w P M s at_ en tm tv bv ov) (hat : at_ ≤ s.size) (n : Nat) (hw : wordN (s.data.toList.drop at_) = n) (hn : n ≤ 12) (hs : s.size ≤ 140737488351232) :
  Calls Tryz.prog 103 #[.pointer (some ⟨P, 0, none⟩)] w fun e w' => e = .returned (tok 0 (s.extract at_ (at_ + n))).val ∧ Sc w' P M s (at_ + n) en tm tv bv ov ∧ But P w w' := by
 obtain ⟨c0, c1, c2, c3, c4, c5, c6, c7, cf⟩ := h.cells
 have H := Lh h
 have hln := wordN_le (s.data.toList.drop at_)
 rw [hw, List.length_drop, sizeL] at hln
 have HW := Lh (fun w => word_p (s.extract at_ s.size) (by simp [ByteArray.size_extract]; omega) w)
 rw [dropE, hw] at HW
 have HT := Lh (fun (W : World) (hS : Sc W P M s at_ en tm tv bv ov) => take_m hS n (by omega) hs)
 have b0 : (at_ : Int) ≤ (s.size : Int) := by omega
 have b1 : ¬ (n : Int) > 12 := by omega
 clear h hw hln hat
 go_enter Tryz.func103, Tryz.ntmps103
 go_wp2_with fail
 generalize hW : w.alloc (.cells #[.int .i64 0, .int .i64 0, .string ⟨#[]⟩, .string ⟨#[]⟩, .string ⟨#[]⟩, .int .i64 0] 42) = W1
 have G1 : Hid (Gr w W1) := Lh (by rw [← hW]; exact (Gr.refl w).alloc _)
 have K1 : Hid (W1.heap[w.heap.size]? = some (.cells #[.int .i64 0, .int .i64 0, .string ⟨#[]⟩, .string ⟨#[]⟩, .string ⟨#[]⟩, .int .i64 0] 42 (0, 0))) := Lh (by rw [← hW]; exact heap_alloc_new w _)
 clear hW c0 c1 c2 c3 c4 c5 c6 c7 cf
 obtain ⟨c0, c1, c2, c3, c4, c5, c6, c7, cf⟩ := (H.out.gr G1.out).cells
 go_quiet ((go_at_call 119; exact quiet_at (HW.out _)))
 go_wp2_with fail
 refine (HT.out _ (H.out.gr (G1.out.drewN _))).mono ?_
 rintro e w2 ⟨rfl, hS2, hb2⟩
 have hP : P < w.heap.size := H.out.lt.1
 have hM : M.blk < w.heap.size := H.out.lt.2
 have K2 := Lh ((hb2.block _ (Ag K1.out).1 (by simp; omega)).trans K1.out)
 have B2 := Lh ((But.of_gr (G1.out.drewN _)).trans hb2)
 have S2 := Lh hS2
 clear hS2 hb2 K1 HT HW c0 c1 c2 c3 c4 c5 c6 c7 cf
 go_wp2_with (refine wpList_store_tok rfl (.tmp 2) (.tmp 24) rfl (t := tok 0 (s.extract at_ (at_ + n))) rfl rfl K2.out rfl ?_)
 intro W3 hb3 hk3
 have B3 := Lh hb3
 have K3 := Lh hk3
 clear hb3 hk3
 go_wp2_with fail
 refine bodyPost_ret (results_tok rfl rfl K3.out) rfl ?_
 exact ⟨rfl, S2.out.but B3.out (by omega) (by omega), B2.out.late (Nat.le_refl _) B3.out⟩
variable {l : List UInt8} {f n : Nat}
variable {w : World} {P : Nat} {M : GoMap} {s : ByteArray} {at_ en : Nat} {tm : Bool} {tv bv ov : Value}
set_option maxRecDepth 100000 in
set_option maxHeartbeats 1000000 in
theorem number_m (h : Sc w P M s at_ en tm tv bv ov) (hat : at_ < s.size) (hs : s.size ≤ 140737488351232) :
  Calls Tryz.prog 105 #[.pointer (some ⟨P, 0, none⟩)] w fun e w' => e = .returned (tok 1 (s.extract at_ (digR s.data.toList s.size (at_ + 1)))).val ∧ Sc w' P M s (digR s.data.toList s.size (at_ + 1)) en tm tv bv ov ∧ But P w w' := by
 have H := Lh h
 have HD := Lh dig_p
 obtain ⟨l, hl⟩ : ∃ l, l = s.data.toList := ⟨_, rfl⟩
 have hsz : s.size = l.length := by rw [hl, ← sizeL]
 have HB := Lh (fun n (h : n < s.size) (h' : n < l.length) => (show s[n] = l[n] by subst hl; exact byteE s n h h'))
 have HR : Hid (∃ f, l.length ≤ at_ + 1 + f ∧ digR l s.size (at_ + 1) = digR l f (at_ + 1)) := Lh ⟨s.size, by omega, rfl⟩
 rw [← hl]
 have HT := Lh (fun (W : World) (hS : Sc W P M s at_ en tm tv bv ov) (n : Nat) (hn : at_ + n ≤ s.size) => take_m hS n hn hs)
 generalize digR l s.size (at_ + 1) = R at *
 have Hsz := Lh hsz
 have hat' : (at_ : Int) < (s.size : Int) := by omega
 have hP : P < w.heap.size := h.lt.1
 have hM : M.blk < w.heap.size := h.lt.2
 clear h hl hsz
 go_enter Tryz.func105, Tryz.ntmps105
 go_wp2_with fail
 generalize hW : w.alloc (.cells #[.int .i64 0, .int .i64 0, .string ⟨#[]⟩, .string ⟨#[]⟩, .string ⟨#[]⟩, .int .i64 0] 42) = W1
 have G1 : Hid (Gr w W1) := Lh (by rw [← hW]; exact (Gr.refl w).alloc _)
 have K1 : Hid (W1.heap[w.heap.size]? = some (.cells #[.int .i64 0, .int .i64 0, .string ⟨#[]⟩, .string ⟨#[]⟩, .string ⟨#[]⟩, .int .i64 0] 42 (0, 0))) := Lh (by rw [← hW]; exact heap_alloc_new w _)
 clear hW
 go_loopw [3] (fun sc wr => ∃ k f : Nat, sc = .int .i64 (k : Int) ∧ at_ + k ≤ s.size ∧ l.length ≤ at_ + k + f ∧ Gr W1 wr ∧ Hid (R = digR l f (at_ + k))) (fun sc _ => leftTo s.size sc)
 case atStart => obtain ⟨f, h2, h3⟩ := HR.out; exact ⟨1, f, rfl, by omega, h2, Gr.refl _, Lh h3⟩
 case round =>
  obtain ⟨k, f, rfl, hk, hf, hg, hR⟩ := hrel
  clear HR
  have Hg := Lh hg
  clear hg
  obtain ⟨c0, c1, c2, c3, c4, c5, c6, c7, cf⟩ := ((H.out.gr G1.out).gr Hg.out).cells
  obtain ⟨m, hm⟩ : ∃ m, m = at_ + k := ⟨_, rfl⟩
  have hm' : (at_ : Int) + (k : Int) = (m : Int) := by omega
  have bm : (m : Int) ≤ 9223372036854775807 := by omega
  have bk : (k : Int) + 1 ≤ 9223372036854775807 := by omega
  have bk2 : -9223372036854775808 ≤ (k : Int) + 1 := by omega
  have hwm : IntKind.i64.wrap (m : Int) = (m : Int) := by rw [IntKind.wrap_i64]; omega
  rw [← hm] at hR hf
  have Hm := Lh hm
  by_cases hc : m < l.length
  ·have hsn : m < s.size := by rw [Hsz.out]; exact hc
   have hc' : (m : Int) < (s.size : Int) := by omega
   have en_ := HB.out m hsn hc
   have hD := Lh (fun w => HD.out l[m].toNat w)
   by_cases hd : digB l[m].toNat = true
   ·have HE : Hid (∃ f', l.length ≤ m + 1 + f' ∧ R = digR l f' (m + 1)) := Lh (by rw [hR.out]; exact digR_on hc hf hd)
    rw [hd] at hD
    generalize l[m] = x at *
    have Hf := Lh hsn
    clear hd hR HB HD hf hk hm
    go_wp2_with fail
    go_quiet ((go_at_call 104; exact quiet_at (hD.out _)))
    go_wp2_with fail
    go_roundw
    case rel =>
     obtain ⟨f', h5, h6⟩ := HE.out
     have := Hm.out
     have e : at_ + (k + 1) = m + 1 := by omega
     exact ⟨k + 1, f', rfl, by omega, by omega, Hg.out.drewN _, Lh (by rw [e]; exact h6)⟩
    case measure => have := Hm.out; simp only [leftTo]; omega
   ·have hd' : digB l[m].toNat = false := by simpa using hd
    have E : Hid (R = m) := Lh (by rw [hR.out, digR_stop hc hd'])
    rw [hd'] at hD
    generalize l[m] = x at *
    clear hd hd' hR HB HD hf hm hc
    go_wp2_with fail
    go_quiet ((go_at_call 104; exact quiet_at (hD.out _)))
    go_wp2_with fail
    refine (HT.out _ (((H.out.gr G1.out).gr Hg.out).gr ((Gr.refl wr).drewN _)) k (by omega)).mono ?_
    rintro e w2 ⟨rfl, hS2, hb2⟩
    have K2 := Lh ((hb2.block _ (Nat.lt_of_lt_of_le (Ag K1.out).1 (Gr.size (Hg.out.drewN _))) (by simp; omega)).trans (((Hg.out.drewN _).block _ (Ag K1.out).1).trans K1.out))
    have B2 := Lh ((But.of_gr (G1.out.trans (Hg.out.drewN _))).trans hb2)
    have S2 := Lh hS2
    clear hS2 hb2 HT c0 c1 c2 c3 c4 c5 c6 c7 cf
    rw [← Hm.out] at S2 ⊢
    go_wp2_with (refine wpList_store_tok rfl (.tmp 2) (.tmp 35) rfl (t := tok 1 (s.extract at_ m)) rfl rfl K2.out rfl ?_)
    intro W3 hb3 hk3
    have B3 := Lh hb3
    have K3 := Lh hk3
    clear hb3 hk3
    go_wp2_with fail
    refine bodyPost_ret (results_tok rfl rfl K3.out) rfl ?_
    rw [E.out]
    exact ⟨rfl, S2.out.but B3.out (by omega) (by omega), B2.out.late (Nat.le_refl _) B3.out⟩
  ·have E : Hid (R = m) := Lh (by rw [hR.out, digR_end (by omega)])
   have hc' : decide (m < s.size) = false := by rw [Hsz.out]; simp; omega
   clear hR HB HD hf hm hc
   go_wp2_with fail
   go_quiet (fail)
   go_wp2_with fail
   refine (HT.out _ (((H.out.gr G1.out).gr Hg.out).gr ((Gr.refl wr).drewN _)) k (by omega)).mono ?_
   rintro e w2 ⟨rfl, hS2, hb2⟩
   have K2 := Lh ((hb2.block _ (Nat.lt_of_lt_of_le (Ag K1.out).1 (Gr.size (Hg.out.drewN _))) (by simp; omega)).trans (((Hg.out.drewN _).block _ (Ag K1.out).1).trans K1.out))
   have B2 := Lh ((But.of_gr (G1.out.trans (Hg.out.drewN _))).trans hb2)
   have S2 := Lh hS2
   clear hS2 hb2 HT c0 c1 c2 c3 c4 c5 c6 c7 cf
   rw [← Hm.out] at S2 ⊢
   go_wp2_with (refine wpList_store_tok rfl (.tmp 2) (.tmp 35) rfl (t := tok 1 (s.extract at_ m)) rfl rfl K2.out rfl ?_)
   intro W3 hb3 hk3
   have B3 := Lh hb3
   have K3 := Lh hk3
   clear hb3 hk3
   go_wp2_with fail
   refine bodyPost_ret (results_tok rfl rfl K3.out) rfl ?_
   rw [E.out]
   exact ⟨rfl, S2.out.but B3.out (by omega) (by omega), B2.out.late (Nat.le_refl _) B3.out⟩
variable {w : World} {P : Nat} {M : GoMap} {s : ByteArray} {at_ en : Nat} {tm : Bool} {tv bv ov : Value}
set_option maxRecDepth 100000 in
set_option maxHeartbeats 1000000 in
theorem sign_m (h : Sc w P M s at_ en tm tv bv ov) (hat : at_ ≤ s.size) (hs : s.size ≤ 140737488351232) (n : Nat) (hn : signN (s.data.toList.drop at_) = n) (h0 : 0 < n) :
  Calls Tryz.prog 106 #[.pointer (some ⟨P, 0, none⟩)] w fun e w' => e = .returned (tok 3 (s.extract at_ (at_ + n))).val ∧ Sc w' P M s (at_ + n) en tm tv bv ov ∧ But P w w' := by
 have H := Lh h
 have HI := Lh isSign_p
 obtain ⟨r, hr⟩ : ∃ r, r = s.extract at_ s.size := ⟨_, rfl⟩
 have hrs : r.size = s.size - at_ := by rw [hr]; simp [ByteArray.size_extract]
 have hrl : r.data.toList = s.data.toList.drop at_ := by rw [hr, dropE]
 have HE : Hid (∀ k : Nat, (r.extract 0 k).data.toList = r.data.toList.take k) := Lh (fun k => by rw [extractE]; simp)
 have hmin : signN (s.data.toList.drop at_) = signGo r.data.toList (min 3 r.size) := by rw [signN, ← hrl, sizeL]
 rw [hmin] at hn
 have HR : Hid (n = signGo r.data.toList (min 3 r.size)) := Lh hn.symm
 have hnr : n ≤ r.size := by have := signGo_le r.data.toList (min 3 r.size); omega
 have HT := Lh (fun (W : World) (hS : Sc W P M s at_ en tm tv bv ov) => take_m hS n (by omega) hs)
 have b0 : (at_ : Int) ≤ (s.size : Int) := by omega
 have hP : P < w.heap.size := h.lt.1
 have hM : M.blk < w.heap.size := h.lt.2
 have Hr := Lh hr
 have Hrs := Lh hrs
 clear h hn hmin hrl hrs
 go_enter Tryz.func106, Tryz.ntmps106
 go_wp2_with fail
 generalize hW : w.alloc (.cells #[.int .i64 0, .int .i64 0, .string ⟨#[]⟩, .string ⟨#[]⟩, .string ⟨#[]⟩, .int .i64 0] 42) = W1
 have G1 : Hid (Gr w W1) := Lh (by rw [← hW]; exact (Gr.refl w).alloc _)
 have K1 : Hid (W1.heap[w.heap.size]? = some (.cells #[.int .i64 0, .int .i64 0, .string ⟨#[]⟩, .string ⟨#[]⟩, .string ⟨#[]⟩, .int .i64 0] 42 (0, 0))) := Lh (by rw [← hW]; exact heap_alloc_new w _)
 clear hW
 obtain ⟨c0, c1, c2, c3, c4, c5, c6, c7, cf⟩ := (H.out.gr G1.out).cells
 go_quiet (fail)
 clear c0 c1 c2 c3 c4 c5 c6 c7 cf
 rw [← hr]
 clear hr
 go_wp2_with fail
 go_loopw [4] (fun sc wr => ∃ k : Nat, sc = .int .i64 (k : Int) ∧ k ≤ r.size ∧ Gr W1 wr ∧ Hid (n = signGo r.data.toList k)) (fun sc _ => nat0 sc)
 case atStart => exact ⟨min 3 r.size, by simp; omega, by omega, (Gr.refl _).drewN _, HR⟩
 case round =>
  obtain ⟨k, rfl, hk, hg, hR⟩ := hrel
  clear HR
  have Hg := Lh hg
  clear hg
  cases k with
  | zero => exfalso; have := hR.out; rw [signGo] at this; omega
  | succ k =>
   have hkb : (k : Int) ≤ 9223372036854775807 := by have := Hrs.out; omega
   have hkc : -9223372036854775808 ≤ (k : Int) := by omega
   have hk1 : (0 : Int) < ((k + 1 : Nat) : Int) := by omega
   have hk2 : ((k + 1 : Nat) : Int) ≤ (r.size : Int) := by omega
   obtain ⟨m, hm⟩ : ∃ m, m = k + 1 := ⟨_, rfl⟩
   have hI := Lh (fun w => HI.out (r.extract 0 (k + 1)) w)
   rw [HE.out] at hI
   by_cases hb : isSignB (r.data.toList.take (k + 1)) = true
   ·have hnk : n = k + 1 := by have := hR.out; rw [signGo, if_pos hb] at this; exact this
    rw [hb] at hI
    rw [← hm] at hI hk1 hk2 hnk ⊢
    have Hnk := Lh hnk
    clear hb hR HI HE hnk hm
    go_wp2_with fail
    refine (hI.out _).mono ?_
    rintro e w2 ⟨rfl, rfl⟩
    go_wp2_with fail
    rw [← Hnk.out]
    refine (HT.out _ ((H.out.gr G1.out).gr Hg.out)).mono ?_
    rintro e w2 ⟨rfl, hS2, hb2⟩
    have K2 := Lh ((hb2.block _ (Nat.lt_of_lt_of_le (Ag K1.out).1 (Gr.size Hg.out)) (by simp; omega)).trans ((Hg.out.block _ (Ag K1.out).1).trans K1.out))
    have B2 := Lh ((But.of_gr (G1.out.trans Hg.out)).trans hb2)
    have S2 := Lh hS2
    clear hS2 hb2 HT
    go_wp2_with (refine wpList_store_tok rfl (.tmp 2) (.tmp 28) rfl (t := tok 3 (s.extract at_ (at_ + n))) rfl rfl K2.out rfl ?_)
    intro W3 hb3 hk3
    have B3 := Lh hb3
    have K3 := Lh hk3
    clear hb3 hk3
    go_wp2_with fail
    refine bodyPost_ret (results_tok rfl rfl K3.out) rfl ?_
    exact ⟨rfl, S2.out.but B3.out (by omega) (by omega), B2.out.late (Nat.le_refl _) B3.out⟩
   ·have hR2 : Hid (n = signGo r.data.toList k) := Lh (by have := hR.out; rw [signGo, if_neg hb] at this; exact this)
    have hks : ((k + 1 : Nat) : Int) - 1 = (k : Int) := by omega
    rw [show isSignB (r.data.toList.take (k + 1)) = false by simpa using hb] at hI
    rw [← hm] at hI hk1 hk2 hks ⊢
    have Hm := Lh hm
    clear hb hR HI HE hm
    go_wp2_with fail
    refine (hI.out _).mono ?_
    rintro e w2 ⟨rfl, rfl⟩
    go_wp2_with fail
    go_roundw
    case rel => exact ⟨k, rfl, by omega, Hg.out, hR2⟩
    case measure => have := Hm.out; simp only [nat0]; omega
variable {w : World} {P : Nat} {M : GoMap} {s : ByteArray} {at_ en : Nat} {tm : Bool} {tv bv ov : Value}
set_option maxRecDepth 100000 in
set_option maxHeartbeats 1000000 in
theorem variable_no (h : Sc w P M s at_ en tm tv bv ov) (hat : at_ < s.size) (hs : s.size ≤ 140737488351232) (x : UInt8) (hx : s.data.toList[at_]? = some x) (hn : sigilB x.toNat = false) :
  Calls Tryz.prog 101 #[.pointer (some ⟨P, 0, none⟩)] w fun e w' => e = .returned (.tuple #[tok0.val, .bool false]) ∧ Sc w' P M s at_ en tm tv bv ov ∧ But P w w' := by
 have H := Lh h
 have HS := Lh (fun w => sigil_p x.toNat w)
 rw [hn] at HS
 have hL : at_ < s.data.toList.length := by rw [sizeL]; exact hat
 have en_ : s[at_] = x := by rw [byteE s at_ hat hL]; rw [List.getElem?_eq_getElem hL] at hx; exact Option.some.inj hx
 have b0 : (at_ : Int) < (s.size : Int) := by omega
 have b1 : (at_ : Int) + 1 ≤ 9223372036854775807 := by omega
 have b2 : -9223372036854775808 ≤ (at_ : Int) + 1 := by omega
 have b3 : (at_ : Int) + 1 ≤ (s.size : Int) := by omega
 have hP : P < w.heap.size := h.lt.1
 have hM : M.blk < w.heap.size := h.lt.2
 clear h hn hx
 go_enter Tryz.func101, Tryz.ntmps101
 go_wp2_with fail
 generalize hW : w.alloc (.cells #[.int .i64 0, .int .i64 0, .string ⟨#[]⟩, .string ⟨#[]⟩, .string ⟨#[]⟩, .int .i64 0] 42) = W1
 have G1 : Hid (Gr w W1) := Lh (by rw [← hW]; exact (Gr.refl w).alloc _)
 have K1 : Hid (W1.heap[w.heap.size]? = some (.cells #[.int .i64 0, .int .i64 0, .string ⟨#[]⟩, .string ⟨#[]⟩, .string ⟨#[]⟩, .int .i64 0] 42 (0, 0))) := Lh (by rw [← hW]; exact heap_alloc_new w _)
 clear hW
 obtain ⟨c0, c1, c2, c3, c4, c5, c6, c7, cf⟩ := (H.out.gr G1.out).cells
 go_quiet (fail)
 clear c0 c1 c2 c3 c4 c5 c6 c7 cf
 go_wp2_with fail
 refine (HS.out _).mono ?_
 rintro e w2 ⟨rfl, rfl⟩
 go_wp2_with (refine wpList_store_tok rfl (.tmp 2) (.tmp 33) rfl (t := tok0) rfl rfl K1.out rfl ?_)
 intro W3 hb3 hk3
 have B3 := Lh hb3
 have K3 := Lh hk3
 clear hb3 hk3
 go_wp2_with fail
 refine bodyPost_ret (results_tokB rfl rfl K3.out rfl) rfl ?_
 exact ⟨rfl, (H.out.gr (G1.out.drewN _)).but B3.out (by omega) (by omega), (But.of_gr (G1.out.drewN _)).late (Nat.le_refl _) B3.out⟩
set_option maxRecDepth 100000 in
set_option maxHeartbeats 1000000 in
theorem variable_yes (h : Sc w P M s at_ en tm tv bv ov) (hat : at_ + 1 < s.size) (hs : s.size ≤ 140737488351232) (x : UInt8) (hx : s.data.toList[at_]? = some x) (hn : sigilB x.toNat = true) (n : Nat) (hw : wordN (s.data.toList.drop (at_ + 1)) = n) (h0 : 0 < n) (h12 : n ≤ 12) :
  Calls Tryz.prog 101 #[.pointer (some ⟨P, 0, none⟩)] w fun e w' => e = .returned (.tuple #[(tok 2 (s.extract at_ (at_ + (1 + n)))).val, .bool true]) ∧ Sc w' P M s (at_ + (1 + n)) en tm tv bv ov ∧ But P w w' := by
 have H := Lh h
 have HS := Lh (fun w => sigil_p x.toNat w)
 rw [hn] at HS
 have hL : at_ < s.data.toList.length := by rw [sizeL]; omega
 have hat0 : at_ < s.size := by omega
 have en_ : s[at_] = x := by rw [byteE s at_ hat0 hL]; rw [List.getElem?_eq_getElem hL] at hx; exact Option.some.inj hx
 have hln := wordN_le (s.data.toList.drop (at_ + 1))
 rw [hw, List.length_drop, sizeL] at hln
 have HW := Lh (fun w => word_p (s.extract (at_ + 1) s.size) (by simp [ByteArray.size_extract]; omega) w)
 rw [dropE, hw] at HW
 have HT := Lh (fun (W : World) (hS : Sc W P M s at_ en tm tv bv ov) => take_m hS (1 + n) (by omega) hs)
 have hne : ((s.extract (at_ + 1) s.size).toList == []) = false := by
  rw [ByteArray.toList_eq, dropE]; simp; exact hat
 have b0 : (at_ : Int) < (s.size : Int) := by omega
 have b1 : (at_ : Int) + 1 ≤ 9223372036854775807 := by omega
 have b2 : -9223372036854775808 ≤ (at_ : Int) + 1 := by omega
 have b3 : (at_ : Int) + 1 ≤ (s.size : Int) := by omega
 have n0 : ((n : Int) == 0) = false := by simp; omega
 have n1 : ¬ (n : Int) > 12 := by omega
 have n2 : (1 : Int) + (n : Int) ≤ 9223372036854775807 := by omega
 have n3 : -9223372036854775808 ≤ (1 : Int) + (n : Int) := by omega
 obtain ⟨m, hm⟩ : ∃ m, m = 1 + n := ⟨_, rfl⟩
 have hw1 : IntKind.i64.wrap ((1 : Int) + (n : Int)) = (m : Int) := by rw [IntKind.wrap_i64]; omega
 have hw2 : wrap64 ((1 : Int) + (n : Int)) = (m : Int) := by simp only [wrap64]; omega
 rw [← hm] at HT ⊢
 have hP : P < w.heap.size := h.lt.1
 have hM : M.blk < w.heap.size := h.lt.2
 have Hat := Lh hat
 clear h hn hx hw hln h0 hm n2 n3 hat
 obtain ⟨r, hr⟩ : ∃ r, r = s.extract (at_ + 1) s.size := ⟨_, rfl⟩
 rw [← hr] at HW hne
 have Hr := Lh hr
 clear hr
 go_enter Tryz.func101, Tryz.ntmps101
 go_wp2_with fail
 generalize hW : w.alloc (.cells #[.int .i64 0, .int .i64 0, .string ⟨#[]⟩, .string ⟨#[]⟩, .string ⟨#[]⟩, .int .i64 0] 42) = W1
 have G1 : Hid (Gr w W1) := Lh (by rw [← hW]; exact (Gr.refl w).alloc _)
 have K1 : Hid (W1.heap[w.heap.size]? = some (.cells #[.int .i64 0, .int .i64 0, .string ⟨#[]⟩, .string ⟨#[]⟩, .string ⟨#[]⟩, .int .i64 0] 42 (0, 0))) := Lh (by rw [← hW]; exact heap_alloc_new w _)
 clear hW
 obtain ⟨c0, c1, c2, c3, c4, c5, c6, c7, cf⟩ := (H.out.gr G1.out).cells
 go_quiet (fail)
 clear c0 c1 c2 c3 c4 c5 c6 c7 cf
 rw [← Hr.out]
 go_wp2_with fail
 refine (HS.out _).mono ?_
 rintro e w2 ⟨rfl, rfl⟩
 go_wp2_with fail
 refine (HW.out _).mono ?_
 rintro e w2 ⟨rfl, rfl⟩
 clear b1 b2 b3
 go_wp2_with fail
 refine (HT.out _ (H.out.gr (G1.out.drewN _))).mono ?_
 rintro e w2 ⟨rfl, hS2, hb2⟩
 have K2 := Lh ((hb2.block _ (Ag K1.out).1 (by simp; omega)).trans K1.out)
 have B2 := Lh ((But.of_gr (G1.out.drewN _)).trans hb2)
 have S2 := Lh hS2
 clear hS2 hb2 K1 HT HW
 go_wp2_with (refine wpList_store_tok rfl (.tmp 2) (.tmp 71) rfl (t := tok 2 (s.extract at_ (at_ + m))) rfl rfl K2.out rfl ?_)
 intro W3 hb3 hk3
 have B3 := Lh hb3
 have K3 := Lh hk3
 clear hb3 hk3
 go_wp2_with fail
 refine bodyPost_ret (results_tokB rfl rfl K3.out rfl) rfl ?_
 exact ⟨rfl, S2.out.but B3.out (by omega) (by omega), B2.out.late (Nat.le_refl _) B3.out⟩
end Go.Proofs.YthmopindibdhnaaGreatDoor.G
namespace Go.Proofs.YthmopindibdhnaaGreatDoor.G
open Go.RowKit Go.Shelf Go.Maps
def Bad (s : ByteArray) (e : Ending) : Prop := ∃ q : Nat, q < s.size ∧ e = .panicked [{ v := .iface 83 (.int .i64 (q : Int)), recovered := false }]
variable {w w' : World} {P : Nat} {M : GoMap} {s : ByteArray} {at_ en : Nat} {tm : Bool} {tv bv ov : Value}
set_option maxRecDepth 100000 in
theorem word_bad (h : Sc w P M s at_ en tm tv bv ov) (hat : at_ < s.size) (hn : 12 < wordN (s.data.toList.drop at_)) (hs : s.size ≤ 140737488351232) :
  Calls Tryz.prog 103 #[.pointer (some ⟨P, 0, none⟩)] w fun e w' => Bad s e ∧ But P w w' := by
 obtain ⟨c0, c1, c2, c3, c4, c5, c6, c7, cf⟩ := h.cells
 have H := Lh h
 have HW := Lh (fun w => word_p (s.extract at_ s.size) (by simp [ByteArray.size_extract]; omega) w)
 rw [dropE] at HW
 generalize wordN (s.data.toList.drop at_) = n at *
 have b0 : (at_ : Int) ≤ (s.size : Int) := by omega
 have b1 : (n : Int) > 12 := by omega
 have Hat := Lh hat
 clear h hat hn
 go_enter Tryz.func103, Tryz.ntmps103
 go_wp2_with fail
 generalize hW : w.alloc (.cells #[.int .i64 0, .int .i64 0, .string ⟨#[]⟩, .string ⟨#[]⟩, .string ⟨#[]⟩, .int .i64 0] 42) = W1
 have G1 : Hid (Gr w W1) := Lh (by rw [← hW]; exact (Gr.refl w).alloc _)
 clear hW c0 c1 c2 c3 c4 c5 c6 c7 cf
 obtain ⟨c0, c1, c2, c3, c4, c5, c6, c7, cf⟩ := (H.out.gr G1.out).cells
 go_quiet ((go_at_call 119; exact quiet_at (HW.out _)))
 go_wp2_with fail
 exact ⟨rfl, ⟨at_, Hat.out, rfl⟩, But.of_gr (G1.out.drewN _)⟩
end Go.Proofs.YthmopindibdhnaaGreatDoor.G
namespace Go.Proofs.YthmopindibdhnaaGreatDoor.G
open Go.RowKit Go.Shelf Go.Maps
variable {w w' : World} {P : Nat} {M : GoMap} {s : ByteArray} {at_ en : Nat} {tm : Bool} {tv bv ov : Value}
theorem u8_ne {x k : UInt8} (h : x ≠ k) : ((x.toNat : Int) == (k.toNat : Int)) = false := by
 simp only [beq_eq_false_iff_ne, ne_eq]
 intro e
 exact h (UInt8.toNat_inj.1 (by omega))
set_option maxRecDepth 100000 in
set_option maxHeartbeats 1000000 in
theorem variable_end (h : Sc w P M s at_ en tm tv bv ov) (hs : s.size ≤ 140737488351232) (x : UInt8) (hx : s.data.toList[at_]? = some x) (hn : sigilB x.toNat = true) (hz : at_ + 1 = s.size) :
  Calls Tryz.prog 101 #[.pointer (some ⟨P, 0, none⟩)] w fun e w' => e = .returned (.tuple #[tok0.val, .bool false]) ∧ Sc w' P M s at_ en tm tv bv ov ∧ But P w w' := by
 have H := Lh h
 have HS := Lh (fun w => sigil_p x.toNat w)
 rw [hn] at HS
 have hL : at_ < s.data.toList.length := (List.getElem?_eq_some_iff.1 hx).1
 have hat0 : at_ < s.size := by rw [sizeL] at hL; exact hL
 have en_ : s[at_] = x := by rw [byteE s at_ hat0 hL]; exact (List.getElem?_eq_some_iff.1 hx).2
 have b0 : (at_ : Int) < (s.size : Int) := by omega
 have b1 : (at_ : Int) + 1 ≤ 9223372036854775807 := by omega
 have b2 : -9223372036854775808 ≤ (at_ : Int) + 1 := by omega
 have b3 : (at_ : Int) + 1 ≤ (s.size : Int) := by omega
 obtain ⟨r, hr⟩ : ∃ r, r = s.extract (at_ + 1) s.size := ⟨_, rfl⟩
 have Hr := Lh hr
 have hne : (r.toList == []) = true := by
  rw [ByteArray.toList_eq, hr, dropE, List.drop_eq_nil_of_le (by rw [sizeL]; omega)]; rfl
 have hP : P < w.heap.size := h.lt.1
 have hM : M.blk < w.heap.size := h.lt.2
 have Hat := Lh hat0
 clear h hx hn hr hz
 go_enter Tryz.func101, Tryz.ntmps101
 go_wp2_with fail
 generalize hW : w.alloc (.cells #[.int .i64 0, .int .i64 0, .string ⟨#[]⟩, .string ⟨#[]⟩, .string ⟨#[]⟩, .int .i64 0] 42) = W1
 have G1 : Hid (Gr w W1) := Lh (by rw [← hW]; exact (Gr.refl w).alloc _)
 have K1 : Hid (W1.heap[w.heap.size]? = some (.cells #[.int .i64 0, .int .i64 0, .string ⟨#[]⟩, .string ⟨#[]⟩, .string ⟨#[]⟩, .int .i64 0] 42 (0, 0))) := Lh (by rw [← hW]; exact heap_alloc_new w _)
 clear hW
 obtain ⟨c0, c1, c2, c3, c4, c5, c6, c7, cf⟩ := (H.out.gr G1.out).cells
 go_quiet (fail)
 clear c0 c1 c2 c3 c4 c5 c6 c7 cf
 rw [← Hr.out]
 go_wp2_with fail
 refine (HS.out _).mono ?_
 rintro e w2 ⟨rfl, rfl⟩
 go_wp2_with (refine wpList_store_tok rfl (.tmp 2) (.tmp 33) rfl (t := tok0) rfl rfl K1.out rfl ?_)
 intro W3 hb3 hk3
 have B3 := Lh hb3
 have K3 := Lh hk3
 clear hb3 hk3
 go_wp2_with fail
 refine bodyPost_ret (results_tokB rfl rfl K3.out rfl) rfl ?_
 exact ⟨rfl, (H.out.gr (G1.out.drewN _)).but B3.out (by omega) (by omega), (But.of_gr (G1.out.drewN _)).late (Nat.le_refl _) B3.out⟩
set_option maxRecDepth 100000 in
set_option maxHeartbeats 1000000 in
theorem variable_n1 (h : Sc w P M s at_ en tm tv bv ov) (hs : s.size ≤ 140737488351232) (x : UInt8) (hx : s.data.toList[at_]? = some x) (hn : sigilB x.toNat = true) (d : UInt8) (hd : s.data.toList[at_ + 1]? = some d) (hw : wordN (s.data.toList.drop (at_ + 1)) = 0) (hc : x ≠ 36) :
  Calls Tryz.prog 101 #[.pointer (some ⟨P, 0, none⟩)] w fun e w' => e = .returned (.tuple #[tok0.val, .bool false]) ∧ Sc w' P M s at_ en tm tv bv ov ∧ But P w w' := by
 have H := Lh h
 have HS := Lh (fun w => sigil_p x.toNat w)
 rw [hn] at HS
 have hL : at_ < s.data.toList.length := (List.getElem?_eq_some_iff.1 hx).1
 have hat0 : at_ < s.size := by rw [sizeL] at hL; exact hL
 have en_ : s[at_] = x := by rw [byteE s at_ hat0 hL]; exact (List.getElem?_eq_some_iff.1 hx).2
 have b0 : (at_ : Int) < (s.size : Int) := by omega
 have b1 : (at_ : Int) + 1 ≤ 9223372036854775807 := by omega
 have b2 : -9223372036854775808 ≤ (at_ : Int) + 1 := by omega
 have b3 : (at_ : Int) + 1 ≤ (s.size : Int) := by omega
 obtain ⟨r, hr⟩ : ∃ r, r = s.extract (at_ + 1) s.size := ⟨_, rfl⟩
 have Hr := Lh hr
 have hd1 : at_ + 1 < s.size := by have := (List.getElem?_eq_some_iff.1 hd).1; rw [sizeL] at this; exact this
 have hrs : r.size = s.size - (at_ + 1) := by rw [hr]; simp [ByteArray.size_extract]
 have hrl : r.data.toList = s.data.toList.drop (at_ + 1) := by rw [hr, dropE]
 have hr0 : 0 < r.size := by omega
 have hr0' : (0 : Int) < (r.size : Int) := by omega
 have er : r[0] = d := by
  have hrL : 0 < r.data.toList.length := by rw [sizeL]; exact hr0
  rw [byteE r 0 hr0 hrL]
  have : r.data.toList[0]? = some d := by rw [hrl, List.getElem?_drop]; exact hd
  exact (List.getElem?_eq_some_iff.1 this).2
 have hne : (r.toList == []) = false := by
  rw [ByteArray.toList_eq, hrl]
  have : s.data.toList.drop (at_ + 1) ≠ [] := fun e => by have := congrArg List.length e; rw [List.length_drop, sizeL] at this; simp at this; omega
  simpa using this
 have HW := Lh (fun w => word_p r (by omega) w)
 rw [hrl, hw] at HW
 have t36 : ((x.toNat : Int) == 36) = false := u8_ne hc
 have hP : P < w.heap.size := h.lt.1
 have hM : M.blk < w.heap.size := h.lt.2
 have Hat := Lh hat0
 clear h hx hn hr hd hw hc hd1 hrs hrl
 go_enter Tryz.func101, Tryz.ntmps101
 go_wp2_with fail
 generalize hW : w.alloc (.cells #[.int .i64 0, .int .i64 0, .string ⟨#[]⟩, .string ⟨#[]⟩, .string ⟨#[]⟩, .int .i64 0] 42) = W1
 have G1 : Hid (Gr w W1) := Lh (by rw [← hW]; exact (Gr.refl w).alloc _)
 have K1 : Hid (W1.heap[w.heap.size]? = some (.cells #[.int .i64 0, .int .i64 0, .string ⟨#[]⟩, .string ⟨#[]⟩, .string ⟨#[]⟩, .int .i64 0] 42 (0, 0))) := Lh (by rw [← hW]; exact heap_alloc_new w _)
 clear hW
 obtain ⟨c0, c1, c2, c3, c4, c5, c6, c7, cf⟩ := (H.out.gr G1.out).cells
 go_quiet (fail)
 clear c0 c1 c2 c3 c4 c5 c6 c7 cf
 rw [← Hr.out]
 go_wp2_with fail
 refine (HS.out _).mono ?_
 rintro e w2 ⟨rfl, rfl⟩
 go_wp2_with fail
 refine (HW.out _).mono ?_
 rintro e w2 ⟨rfl, rfl⟩
 go_wp2_with (refine wpList_store_tok rfl (.tmp 2) (.tmp 66) rfl (t := tok0) rfl rfl K1.out rfl ?_)
 intro W3 hb3 hk3
 have B3 := Lh hb3
 have K3 := Lh hk3
 clear hb3 hk3
 go_wp2_with fail
 refine bodyPost_ret (results_tokB rfl rfl K3.out rfl) rfl ?_
 exact ⟨rfl, (H.out.gr (G1.out.drewN _)).but B3.out (by omega) (by omega), (But.of_gr (G1.out.drewN _)).late (Nat.le_refl _) B3.out⟩
set_option maxRecDepth 100000 in
set_option maxHeartbeats 1000000 in
theorem variable_n2 (h : Sc w P M s at_ en tm tv bv ov) (hs : s.size ≤ 140737488351232) (x : UInt8) (hx : s.data.toList[at_]? = some x) (hn : sigilB x.toNat = true) (d : UInt8) (hd : s.data.toList[at_ + 1]? = some d) (hw : wordN (s.data.toList.drop (at_ + 1)) = 0) (hc : x = 36) (hsp : specB d.toNat = false) :
  Calls Tryz.prog 101 #[.pointer (some ⟨P, 0, none⟩)] w fun e w' => e = .returned (.tuple #[tok0.val, .bool false]) ∧ Sc w' P M s at_ en tm tv bv ov ∧ But P w w' := by
 have H := Lh h
 have HS := Lh (fun w => sigil_p x.toNat w)
 rw [hn] at HS
 have hL : at_ < s.data.toList.length := (List.getElem?_eq_some_iff.1 hx).1
 have hat0 : at_ < s.size := by rw [sizeL] at hL; exact hL
 have en_ : s[at_] = x := by rw [byteE s at_ hat0 hL]; exact (List.getElem?_eq_some_iff.1 hx).2
 have b0 : (at_ : Int) < (s.size : Int) := by omega
 have b1 : (at_ : Int) + 1 ≤ 9223372036854775807 := by omega
 have b2 : -9223372036854775808 ≤ (at_ : Int) + 1 := by omega
 have b3 : (at_ : Int) + 1 ≤ (s.size : Int) := by omega
 obtain ⟨r, hr⟩ : ∃ r, r = s.extract (at_ + 1) s.size := ⟨_, rfl⟩
 have Hr := Lh hr
 have hd1 : at_ + 1 < s.size := by have := (List.getElem?_eq_some_iff.1 hd).1; rw [sizeL] at this; exact this
 have hrs : r.size = s.size - (at_ + 1) := by rw [hr]; simp [ByteArray.size_extract]
 have hrl : r.data.toList = s.data.toList.drop (at_ + 1) := by rw [hr, dropE]
 have hr0 : 0 < r.size := by omega
 have hr0' : (0 : Int) < (r.size : Int) := by omega
 have er : r[0] = d := by
  have hrL : 0 < r.data.toList.length := by rw [sizeL]; exact hr0
  rw [byteE r 0 hr0 hrL]
  have : r.data.toList[0]? = some d := by rw [hrl, List.getElem?_drop]; exact hd
  exact (List.getElem?_eq_some_iff.1 this).2
 have hne : (r.toList == []) = false := by
  rw [ByteArray.toList_eq, hrl]
  have : s.data.toList.drop (at_ + 1) ≠ [] := fun e => by have := congrArg List.length e; rw [List.length_drop, sizeL] at this; simp at this; omega
  simpa using this
 have HW := Lh (fun w => word_p r (by omega) w)
 rw [hrl, hw] at HW
 have t36 : ((x.toNat : Int) == 36) = true := by rw [hc]; rfl
 have HI := Lh (fun w => idx_any ⟨#[64, 38, 49, 50, 51, 52, 53, 54, 55, 56, 57]⟩ d.toNat w)
 rw [show (⟨#[64, 38, 49, 50, 51, 52, 53, 54, 55, 56, 57]⟩ : ByteArray).data.toList = [64, 38, 49, 50, 51, 52, 53, 54, 55, 56, 57] from rfl] at HI
 unfold specB at hsp
 generalize Lib.indexByte [64, 38, 49, 50, 51, 52, 53, 54, 55, 56, 57] ((d.toNat : Int)).toNat.toUInt8 = ix at *
 have hix : decide (0 ≤ ix) = false := hsp
 have hP : P < w.heap.size := h.lt.1
 have hM : M.blk < w.heap.size := h.lt.2
 have Hat := Lh hat0
 clear h hx hn hr hd hw hc hd1 hrs hrl hsp
 go_enter Tryz.func101, Tryz.ntmps101
 go_wp2_with fail
 generalize hW : w.alloc (.cells #[.int .i64 0, .int .i64 0, .string ⟨#[]⟩, .string ⟨#[]⟩, .string ⟨#[]⟩, .int .i64 0] 42) = W1
 have G1 : Hid (Gr w W1) := Lh (by rw [← hW]; exact (Gr.refl w).alloc _)
 have K1 : Hid (W1.heap[w.heap.size]? = some (.cells #[.int .i64 0, .int .i64 0, .string ⟨#[]⟩, .string ⟨#[]⟩, .string ⟨#[]⟩, .int .i64 0] 42 (0, 0))) := Lh (by rw [← hW]; exact heap_alloc_new w _)
 clear hW
 obtain ⟨c0, c1, c2, c3, c4, c5, c6, c7, cf⟩ := (H.out.gr G1.out).cells
 go_quiet (fail)
 clear c0 c1 c2 c3 c4 c5 c6 c7 cf
 rw [← Hr.out]
 go_wp2_with fail
 refine (HS.out _).mono ?_
 rintro e w2 ⟨rfl, rfl⟩
 go_wp2_with fail
 refine (HW.out _).mono ?_
 rintro e w2 ⟨rfl, rfl⟩
 go_wp2_with fail
 refine (HI.out _).mono ?_
 rintro e w2 ⟨rfl, rfl⟩
 go_wp2_with (refine wpList_store_tok rfl (.tmp 2) (.tmp 66) rfl (t := tok0) rfl rfl K1.out rfl ?_)
 intro W3 hb3 hk3
 have B3 := Lh hb3
 have K3 := Lh hk3
 clear hb3 hk3
 go_wp2_with fail
 refine bodyPost_ret (results_tokB rfl rfl K3.out rfl) rfl ?_
 exact ⟨rfl, (H.out.gr (G1.out.drewN _)).but B3.out (by omega) (by omega), (But.of_gr (G1.out.drewN _)).late (Nat.le_refl _) B3.out⟩
set_option maxRecDepth 100000 in
set_option maxHeartbeats 1000000 in
theorem variable_sp (h : Sc w P M s at_ en tm tv bv ov) (hs : s.size ≤ 140737488351232) (x : UInt8) (hx : s.data.toList[at_]? = some x) (hn : sigilB x.toNat = true) (d : UInt8) (hd : s.data.toList[at_ + 1]? = some d) (hw : wordN (s.data.toList.drop (at_ + 1)) = 0) (hc : x = 36) (hsp : specB d.toNat = true) :
  Calls Tryz.prog 101 #[.pointer (some ⟨P, 0, none⟩)] w fun e w' => e = .returned (.tuple #[(tok 2 (s.extract at_ (at_ + 2))).val, .bool true]) ∧ Sc w' P M s (at_ + 2) en tm tv bv ov ∧ But P w w' := by
 have H := Lh h
 have HS := Lh (fun w => sigil_p x.toNat w)
 rw [hn] at HS
 have hL : at_ < s.data.toList.length := (List.getElem?_eq_some_iff.1 hx).1
 have hat0 : at_ < s.size := by rw [sizeL] at hL; exact hL
 have en_ : s[at_] = x := by rw [byteE s at_ hat0 hL]; exact (List.getElem?_eq_some_iff.1 hx).2
 have b0 : (at_ : Int) < (s.size : Int) := by omega
 have b1 : (at_ : Int) + 1 ≤ 9223372036854775807 := by omega
 have b2 : -9223372036854775808 ≤ (at_ : Int) + 1 := by omega
 have b3 : (at_ : Int) + 1 ≤ (s.size : Int) := by omega
 obtain ⟨r, hr⟩ : ∃ r, r = s.extract (at_ + 1) s.size := ⟨_, rfl⟩
 have Hr := Lh hr
 have hd1 : at_ + 1 < s.size := by have := (List.getElem?_eq_some_iff.1 hd).1; rw [sizeL] at this; exact this
 have hrs : r.size = s.size - (at_ + 1) := by rw [hr]; simp [ByteArray.size_extract]
 have hrl : r.data.toList = s.data.toList.drop (at_ + 1) := by rw [hr, dropE]
 have hr0 : 0 < r.size := by omega
 have hr0' : (0 : Int) < (r.size : Int) := by omega
 have er : r[0] = d := by
  have hrL : 0 < r.data.toList.length := by rw [sizeL]; exact hr0
  rw [byteE r 0 hr0 hrL]
  have : r.data.toList[0]? = some d := by rw [hrl, List.getElem?_drop]; exact hd
  exact (List.getElem?_eq_some_iff.1 this).2
 have hne : (r.toList == []) = false := by
  rw [ByteArray.toList_eq, hrl]
  have : s.data.toList.drop (at_ + 1) ≠ [] := fun e => by have := congrArg List.length e; rw [List.length_drop, sizeL] at this; simp at this; omega
  simpa using this
 have HW := Lh (fun w => word_p r (by omega) w)
 rw [hrl, hw] at HW
 have t36 : ((x.toNat : Int) == 36) = true := by rw [hc]; rfl
 have HI := Lh (fun w => idx_any ⟨#[64, 38, 49, 50, 51, 52, 53, 54, 55, 56, 57]⟩ d.toNat w)
 rw [show (⟨#[64, 38, 49, 50, 51, 52, 53, 54, 55, 56, 57]⟩ : ByteArray).data.toList = [64, 38, 49, 50, 51, 52, 53, 54, 55, 56, 57] from rfl] at HI
 unfold specB at hsp
 generalize Lib.indexByte [64, 38, 49, 50, 51, 52, 53, 54, 55, 56, 57] ((d.toNat : Int)).toNat.toUInt8 = ix at *
 have hix : 0 ≤ ix := by simpa using hsp
 have HT := Lh (fun (W : World) (hS : Sc W P M s at_ en tm tv bv ov) => take_m hS 2 (by omega) hs)
 have hP : P < w.heap.size := h.lt.1
 have hM : M.blk < w.heap.size := h.lt.2
 have Hat := Lh hat0
 clear h hx hn hr hd hw hc hd1 hrs hrl hsp
 go_enter Tryz.func101, Tryz.ntmps101
 go_wp2_with fail
 generalize hW : w.alloc (.cells #[.int .i64 0, .int .i64 0, .string ⟨#[]⟩, .string ⟨#[]⟩, .string ⟨#[]⟩, .int .i64 0] 42) = W1
 have G1 : Hid (Gr w W1) := Lh (by rw [← hW]; exact (Gr.refl w).alloc _)
 have K1 : Hid (W1.heap[w.heap.size]? = some (.cells #[.int .i64 0, .int .i64 0, .string ⟨#[]⟩, .string ⟨#[]⟩, .string ⟨#[]⟩, .int .i64 0] 42 (0, 0))) := Lh (by rw [← hW]; exact heap_alloc_new w _)
 clear hW
 obtain ⟨c0, c1, c2, c3, c4, c5, c6, c7, cf⟩ := (H.out.gr G1.out).cells
 go_quiet (fail)
 clear c0 c1 c2 c3 c4 c5 c6 c7 cf
 rw [← Hr.out]
 go_wp2_with fail
 refine (HS.out _).mono ?_
 rintro e w2 ⟨rfl, rfl⟩
 go_wp2_with fail
 refine (HW.out _).mono ?_
 rintro e w2 ⟨rfl, rfl⟩
 go_wp2_with fail
 refine (HI.out _).mono ?_
 rintro e w2 ⟨rfl, rfl⟩
 clear b1 b2 b3
 go_wp2_with fail
 refine (HT.out _ (H.out.gr (G1.out.drewN _))).mono ?_
 rintro e w2 ⟨rfl, hS2, hb2⟩
 have K2 := Lh ((hb2.block _ (Ag K1.out).1 (by simp; omega)).trans K1.out)
 have B2 := Lh ((But.of_gr (G1.out.drewN _)).trans hb2)
 have S2 := Lh hS2
 clear hS2 hb2 K1 HT HW
 go_wp2_with (refine wpList_store_tok rfl (.tmp 2) (.tmp 71) rfl (t := tok 2 (s.extract at_ (at_ + 2))) rfl rfl K2.out rfl ?_)
 intro W3 hb3 hk3
 have B3 := Lh hb3
 have K3 := Lh hk3
 clear hb3 hk3
 go_wp2_with fail
 refine bodyPost_ret (results_tokB rfl rfl K3.out rfl) rfl ?_
 exact ⟨rfl, S2.out.but B3.out (by omega) (by omega), B2.out.late (Nat.le_refl _) B3.out⟩
set_option maxRecDepth 100000 in
set_option maxHeartbeats 1000000 in
theorem variable_bad (h : Sc w P M s at_ en tm tv bv ov) (hs : s.size ≤ 140737488351232) (x : UInt8) (hx : s.data.toList[at_]? = some x) (hn : sigilB x.toNat = true) (d : UInt8) (hd : s.data.toList[at_ + 1]? = some d) (n : Nat) (hw : wordN (s.data.toList.drop (at_ + 1)) = n) (h12 : 12 < n) (h95 : d ≠ 95) :
  Calls Tryz.prog 101 #[.pointer (some ⟨P, 0, none⟩)] w fun e w' => Bad s e ∧ But P w w' := by
 have H := Lh h
 have HS := Lh (fun w => sigil_p x.toNat w)
 rw [hn] at HS
 have hL : at_ < s.data.toList.length := (List.getElem?_eq_some_iff.1 hx).1
 have hat0 : at_ < s.size := by rw [sizeL] at hL; exact hL
 have en_ : s[at_] = x := by rw [byteE s at_ hat0 hL]; exact (List.getElem?_eq_some_iff.1 hx).2
 have b0 : (at_ : Int) < (s.size : Int) := by omega
 have b1 : (at_ : Int) + 1 ≤ 9223372036854775807 := by omega
 have b2 : -9223372036854775808 ≤ (at_ : Int) + 1 := by omega
 have b3 : (at_ : Int) + 1 ≤ (s.size : Int) := by omega
 obtain ⟨r, hr⟩ : ∃ r, r = s.extract (at_ + 1) s.size := ⟨_, rfl⟩
 have Hr := Lh hr
 have hd1 : at_ + 1 < s.size := by have := (List.getElem?_eq_some_iff.1 hd).1; rw [sizeL] at this; exact this
 have hrs : r.size = s.size - (at_ + 1) := by rw [hr]; simp [ByteArray.size_extract]
 have hrl : r.data.toList = s.data.toList.drop (at_ + 1) := by rw [hr, dropE]
 have hr0 : 0 < r.size := by omega
 have hr0' : (0 : Int) < (r.size : Int) := by omega
 have er : r[0] = d := by
  have hrL : 0 < r.data.toList.length := by rw [sizeL]; exact hr0
  rw [byteE r 0 hr0 hrL]
  have : r.data.toList[0]? = some d := by rw [hrl, List.getElem?_drop]; exact hd
  exact (List.getElem?_eq_some_iff.1 this).2
 have hne : (r.toList == []) = false := by
  rw [ByteArray.toList_eq, hrl]
  have : s.data.toList.drop (at_ + 1) ≠ [] := fun e => by have := congrArg List.length e; rw [List.length_drop, sizeL] at this; simp at this; omega
  simpa using this
 have HW := Lh (fun w => word_p r (by omega) w)
 rw [hrl, hw] at HW
 have n0 : ((n : Int) == 0) = false := by simp; omega
 have n1 : (n : Int) > 12 := by omega
 have t95 : ((d.toNat : Int) != 95) = true := by have := u8_ne h95; simpa using this
 have hP : P < w.heap.size := h.lt.1
 have hM : M.blk < w.heap.size := h.lt.2
 have Hat := Lh hat0
 clear h hx hn hr hd hw hd1 hrs hrl h12 h95
 go_enter Tryz.func101, Tryz.ntmps101
 go_wp2_with fail
 generalize hW : w.alloc (.cells #[.int .i64 0, .int .i64 0, .string ⟨#[]⟩, .string ⟨#[]⟩, .string ⟨#[]⟩, .int .i64 0] 42) = W1
 have G1 : Hid (Gr w W1) := Lh (by rw [← hW]; exact (Gr.refl w).alloc _)
 have K1 : Hid (W1.heap[w.heap.size]? = some (.cells #[.int .i64 0, .int .i64 0, .string ⟨#[]⟩, .string ⟨#[]⟩, .string ⟨#[]⟩, .int .i64 0] 42 (0, 0))) := Lh (by rw [← hW]; exact heap_alloc_new w _)
 clear hW
 obtain ⟨c0, c1, c2, c3, c4, c5, c6, c7, cf⟩ := (H.out.gr G1.out).cells
 go_quiet (fail)
 rw [← Hr.out]
 go_wp2_with fail
 refine (HS.out _).mono ?_
 rintro e w2 ⟨rfl, rfl⟩
 go_wp2_with fail
 refine (HW.out _).mono ?_
 rintro e w2 ⟨rfl, rfl⟩
 go_wp2_with fail
 exact ⟨rfl, ⟨at_, Hat.out, rfl⟩, But.of_gr (G1.out.drewN _)⟩
set_option maxRecDepth 100000 in
set_option maxHeartbeats 1000000 in
theorem variable_us (h : Sc w P M s at_ en tm tv bv ov) (hs : s.size ≤ 140737488351232) (x : UInt8) (hx : s.data.toList[at_]? = some x) (hn : sigilB x.toNat = true) (d : UInt8) (hd : s.data.toList[at_ + 1]? = some d) (n : Nat) (hw : wordN (s.data.toList.drop (at_ + 1)) = n) (h12 : 12 < n) (h95 : d = 95) :
  Calls Tryz.prog 101 #[.pointer (some ⟨P, 0, none⟩)] w fun e w' => e = .returned (.tuple #[tok0.val, .bool false]) ∧ Sc w' P M s at_ en tm tv bv ov ∧ But P w w' := by
 have H := Lh h
 have HS := Lh (fun w => sigil_p x.toNat w)
 rw [hn] at HS
 have hL : at_ < s.data.toList.length := (List.getElem?_eq_some_iff.1 hx).1
 have hat0 : at_ < s.size := by rw [sizeL] at hL; exact hL
 have en_ : s[at_] = x := by rw [byteE s at_ hat0 hL]; exact (List.getElem?_eq_some_iff.1 hx).2
 have b0 : (at_ : Int) < (s.size : Int) := by omega
 have b1 : (at_ : Int) + 1 ≤ 9223372036854775807 := by omega
 have b2 : -9223372036854775808 ≤ (at_ : Int) + 1 := by omega
 have b3 : (at_ : Int) + 1 ≤ (s.size : Int) := by omega
 obtain ⟨r, hr⟩ : ∃ r, r = s.extract (at_ + 1) s.size := ⟨_, rfl⟩
 have Hr := Lh hr
 have hd1 : at_ + 1 < s.size := by have := (List.getElem?_eq_some_iff.1 hd).1; rw [sizeL] at this; exact this
 have hrs : r.size = s.size - (at_ + 1) := by rw [hr]; simp [ByteArray.size_extract]
 have hrl : r.data.toList = s.data.toList.drop (at_ + 1) := by rw [hr, dropE]
 have hr0 : 0 < r.size := by omega
 have hr0' : (0 : Int) < (r.size : Int) := by omega
 have er : r[0] = d := by
  have hrL : 0 < r.data.toList.length := by rw [sizeL]; exact hr0
  rw [byteE r 0 hr0 hrL]
  have : r.data.toList[0]? = some d := by rw [hrl, List.getElem?_drop]; exact hd
  exact (List.getElem?_eq_some_iff.1 this).2
 have hne : (r.toList == []) = false := by
  rw [ByteArray.toList_eq, hrl]
  have : s.data.toList.drop (at_ + 1) ≠ [] := fun e => by have := congrArg List.length e; rw [List.length_drop, sizeL] at this; simp at this; omega
  simpa using this
 have HW := Lh (fun w => word_p r (by omega) w)
 rw [hrl, hw] at HW
 have n0 : ((n : Int) == 0) = false := by simp; omega
 have n1 : (n : Int) > 12 := by omega
 have t95 : ((d.toNat : Int) != 95) = false := by rw [h95]; rfl
 have hP : P < w.heap.size := h.lt.1
 have hM : M.blk < w.heap.size := h.lt.2
 have Hat := Lh hat0
 clear h hx hn hr hd hw hd1 hrs hrl h12 h95
 go_enter Tryz.func101, Tryz.ntmps101
 go_wp2_with fail
 generalize hW : w.alloc (.cells #[.int .i64 0, .int .i64 0, .string ⟨#[]⟩, .string ⟨#[]⟩, .string ⟨#[]⟩, .int .i64 0] 42) = W1
 have G1 : Hid (Gr w W1) := Lh (by rw [← hW]; exact (Gr.refl w).alloc _)
 have K1 : Hid (W1.heap[w.heap.size]? = some (.cells #[.int .i64 0, .int .i64 0, .string ⟨#[]⟩, .string ⟨#[]⟩, .string ⟨#[]⟩, .int .i64 0] 42 (0, 0))) := Lh (by rw [← hW]; exact heap_alloc_new w _)
 clear hW
 obtain ⟨c0, c1, c2, c3, c4, c5, c6, c7, cf⟩ := (H.out.gr G1.out).cells
 go_quiet (fail)
 clear c0 c1 c2 c3 c4 c5 c6 c7 cf
 rw [← Hr.out]
 go_wp2_with fail
 refine (HS.out _).mono ?_
 rintro e w2 ⟨rfl, rfl⟩
 go_wp2_with fail
 refine (HW.out _).mono ?_
 rintro e w2 ⟨rfl, rfl⟩
 go_wp2_with (refine wpList_store_tok rfl (.tmp 2) (.tmp 66) rfl (t := tok0) rfl rfl K1.out rfl ?_)
 intro W3 hb3 hk3
 have B3 := Lh hb3
 have K3 := Lh hk3
 clear hb3 hk3
 go_wp2_with fail
 refine bodyPost_ret (results_tokB rfl rfl K3.out rfl) rfl ?_
 exact ⟨rfl, (H.out.gr (G1.out.drewN _)).but B3.out (by omega) (by omega), (But.of_gr (G1.out.drewN _)).late (Nat.le_refl _) B3.out⟩
end Go.Proofs.YthmopindibdhnaaGreatDoor.G
namespace Go.Proofs.YthmopindibdhnaaGreatDoor.G
open Go.RowKit Go.Shelf Go.Maps
variable {w w' : World} {P : Nat} {M : GoMap} {s : ByteArray} {at_ en : Nat} {tm : Bool} {tv bv ov : Value}
set_option maxRecDepth 100000 in
set_option maxHeartbeats 1000000 in
theorem sign_of (h : Sc w P M s at_ en tm tv bv ov) (hs : s.size ≤ 140737488351232) (x : UInt8) (hx : s.data.toList[at_]? = some x) (hn : signN (s.data.toList.drop at_) = 0) (d : UInt8) (hd : s.data.toList[at_ + 1]? = some d) (ht : tm = true) (hc : x = 36 ∨ x = 64) (hdd : d = 36 ∨ d = 123) :
  Calls Tryz.prog 106 #[.pointer (some ⟨P, 0, none⟩)] w fun e w' => e = .returned (tok 3 (s.extract at_ (at_ + 1))).val ∧ Sc w' P M s (at_ + 1) en tm tv bv ov ∧ But P w w' := by
 have H := Lh h
 have hL : at_ < s.data.toList.length := (List.getElem?_eq_some_iff.1 hx).1
 have hat : at_ < s.size := by rw [sizeL] at hL; exact hL
 have HI := Lh isSign_p
 obtain ⟨r, hr⟩ : ∃ r, r = s.extract at_ s.size := ⟨_, rfl⟩
 have hrs : r.size = s.size - at_ := by rw [hr]; simp [ByteArray.size_extract]
 have hrl : r.data.toList = s.data.toList.drop at_ := by rw [hr, dropE]
 have HE : Hid (∀ k : Nat, (r.extract 0 k).data.toList = r.data.toList.take k) := Lh (fun k => by rw [extractE]; simp)
 have hmin : signN (s.data.toList.drop at_) = signGo r.data.toList (min 3 r.size) := by rw [signN, ← hrl, sizeL]
 rw [hmin] at hn
 have HR : Hid (0 = signGo r.data.toList (min 3 r.size)) := Lh hn.symm
 have hr0 : 0 < r.size := by omega
 have hr0' : (0 : Int) < (r.size : Int) := by omega
 have er : r[0] = x := by
  have hrL : 0 < r.data.toList.length := by rw [sizeL]; exact hr0
  rw [byteE r 0 hr0 hrL]
  have : r.data.toList[0]? = some x := by rw [hrl, List.getElem?_drop]; exact hx
  exact (List.getElem?_eq_some_iff.1 this).2
 have HT := Lh (fun (W : World) (hS : Sc W P M s at_ en tm tv bv ov) => take_m hS 1 (by omega) hs)
 have hd1 : at_ + 1 < s.size := by have := (List.getElem?_eq_some_iff.1 hd).1; rw [sizeL] at this; exact this
 have hr1 : 1 < r.size := by omega
 have er1 : r[1] = d := by
  have hrL : 1 < r.data.toList.length := by rw [sizeL]; exact hr1
  rw [byteE r 1 hr1 hrL]
  have : r.data.toList[1]? = some d := by rw [hrl, List.getElem?_drop]; exact hd
  exact (List.getElem?_eq_some_iff.1 this).2
 have Hr1 := Lh hr1
 have Her1 := Lh er1
 clear er1 hd hd1
 have b0 : (at_ : Int) ≤ (s.size : Int) := by omega
 have hP : P < w.heap.size := h.lt.1
 have hM : M.blk < w.heap.size := h.lt.2
 have Hr := Lh hr
 have Hrs := Lh hrs
 have Hat := Lh hat
 have Hr0 := Lh hr0
 have Her := Lh er
 clear h hn hmin hrl hrs hx er
 go_enter Tryz.func106, Tryz.ntmps106
 go_wp2_with fail
 generalize hW : w.alloc (.cells #[.int .i64 0, .int .i64 0, .string ⟨#[]⟩, .string ⟨#[]⟩, .string ⟨#[]⟩, .int .i64 0] 42) = W1
 have G1 : Hid (Gr w W1) := Lh (by rw [← hW]; exact (Gr.refl w).alloc _)
 have K1 : Hid (W1.heap[w.heap.size]? = some (.cells #[.int .i64 0, .int .i64 0, .string ⟨#[]⟩, .string ⟨#[]⟩, .string ⟨#[]⟩, .int .i64 0] 42 (0, 0))) := Lh (by rw [← hW]; exact heap_alloc_new w _)
 clear hW
 obtain ⟨c0, c1, c2, c3, c4, c5, c6, c7, cf⟩ := (H.out.gr G1.out).cells
 go_quiet (fail)
 clear c0 c1 c2 c3 c4 c5 c6 c7 cf
 rw [← hr]
 clear hr
 go_wp2_with fail
 go_loopw [4] (fun sc wr => ∃ k : Nat, sc = .int .i64 (k : Int) ∧ k ≤ r.size ∧ Gr W1 wr ∧ Hid (0 = signGo r.data.toList k)) (fun sc _ => nat0 sc)
 case atStart => exact ⟨min 3 r.size, by simp; omega, by omega, (Gr.refl _).drewN _, HR⟩
 case round =>
  obtain ⟨k, rfl, hk, hg, hR⟩ := hrel
  clear HR
  have Hg := Lh hg
  clear hg
  cases k with
  | succ k =>
   have hkb : (k : Int) ≤ 9223372036854775807 := by have := Hrs.out; omega
   have hkc : -9223372036854775808 ≤ (k : Int) := by omega
   have hk1 : (0 : Int) < ((k + 1 : Nat) : Int) := by omega
   have hk2 : ((k + 1 : Nat) : Int) ≤ (r.size : Int) := by omega
   obtain ⟨m, hm⟩ : ∃ m, m = k + 1 := ⟨_, rfl⟩
   have hI := Lh (fun w => HI.out (r.extract 0 (k + 1)) w)
   rw [HE.out] at hI
   have hb : isSignB (r.data.toList.take (k + 1)) = false := by
    cases hb : isSignB (r.data.toList.take (k + 1)) with
    | false => rfl
    | true => have := hR.out; rw [signGo, if_pos hb] at this; cases this
   have hE : Hid (0 = signGo r.data.toList k) := Lh (by have := hR.out; rw [signGo, hb] at this; simpa using this)
   have hks : ((k + 1 : Nat) : Int) - 1 = (k : Int) := by omega
   rw [hb] at hI
   rw [← hm] at hI hk1 hk2 hks ⊢
   have Hm := Lh hm
   clear hb hR HI HE hm
   go_wp2_with fail
   refine (hI.out _).mono ?_
   rintro e w2 ⟨rfl, rfl⟩
   go_wp2_with fail
   go_roundw
   case rel => exact ⟨k, rfl, by omega, Hg.out, hE⟩
   case measure => have := Hm.out; simp only [nat0]; omega
  | zero =>
   have hr0b := Hr0.out
   have hr0' : (0 : Int) < (r.size : Int) := by omega
   have er := Her.out
   obtain ⟨c0, c1, c2, c3, c4, c5, c6, c7, cf⟩ := (H.out.gr (Gr.trans G1.out Hg.out)).cells
   have hr1b := Hr1.out
   have hr1' : (1 : Int) < (r.size : Int) := by omega
   have er1 := Her1.out
   have S1 := Lh (H.out.gr (Gr.trans G1.out Hg.out))
   have K1' := Lh ((Hg.out.block _ (Ag K1.out).1).trans K1.out)
   have B1 := Lh (But.of_gr (P := P) (Gr.trans G1.out Hg.out))
   subst ht
   have h4 : (((x.toNat : Int) == 36) = true) ∨ (((x.toNat : Int) == 36) = false ∧ ((x.toNat : Int) == 64) = true) := by
    rcases hc with rfl | rfl
    ·exact .inl rfl
    ·exact .inr ⟨rfl, rfl⟩
   have h5 : (((d.toNat : Int) == 36) = true) ∨ (((d.toNat : Int) == 36) = false ∧ ((d.toNat : Int) == 123) = true) := by
    rcases hdd with rfl | rfl
    ·exact .inl rfl
    ·exact .inr ⟨rfl, rfl⟩
   clear hc hdd hR K1 HI HE
   rcases h4 with h4 | ⟨h4, h4'⟩ <;> rcases h5 with h5 | ⟨h5, h5'⟩
   all_goals
    go_wp2_with fail
    refine (HT.out _ S1.out).mono ?_
    rintro e w2 ⟨rfl, hS2, hb2⟩
    have K2 := Lh ((hb2.block _ (Ag K1'.out).1 (by simp; omega)).trans K1'.out)
    have B2 := Lh (B1.out.trans hb2)
    have S2 := Lh hS2
    clear hS2 hb2 K1' S1 B1 c0 c1 c2 c3 c4 c5 c6 c7 cf
    go_wp2_with (refine wpList_store_tok rfl (.tmp 2) (.tmp 60) rfl (t := tok 3 (s.extract at_ (at_ + 1))) rfl rfl K2.out rfl ?_)
    intro W3 hb3 hk3
    have B3 := Lh hb3
    have K3 := Lh hk3
    clear hb3 hk3
    go_wp2_with fail
    refine bodyPost_ret (results_tok rfl rfl K3.out) rfl ?_
    exact ⟨rfl, S2.out.but B3.out (by omega) (by omega), B2.out.late (Nat.le_refl _) B3.out⟩
set_option maxRecDepth 100000 in
set_option maxHeartbeats 1000000 in
theorem sign_bad1 (h : Sc w P M s at_ en tm tv bv ov) (hs : s.size ≤ 140737488351232) (x : UInt8) (hx : s.data.toList[at_]? = some x) (hn : signN (s.data.toList.drop at_) = 0) (hc : tm = false ∨ (x ≠ 36 ∧ x ≠ 64) ∨ at_ + 1 = s.size) :
  Calls Tryz.prog 106 #[.pointer (some ⟨P, 0, none⟩)] w fun e w' => Bad s e ∧ But P w w' := by
 have H := Lh h
 have hL : at_ < s.data.toList.length := (List.getElem?_eq_some_iff.1 hx).1
 have hat : at_ < s.size := by rw [sizeL] at hL; exact hL
 have HI := Lh isSign_p
 obtain ⟨r, hr⟩ : ∃ r, r = s.extract at_ s.size := ⟨_, rfl⟩
 have hrs : r.size = s.size - at_ := by rw [hr]; simp [ByteArray.size_extract]
 have hrl : r.data.toList = s.data.toList.drop at_ := by rw [hr, dropE]
 have HE : Hid (∀ k : Nat, (r.extract 0 k).data.toList = r.data.toList.take k) := Lh (fun k => by rw [extractE]; simp)
 have hmin : signN (s.data.toList.drop at_) = signGo r.data.toList (min 3 r.size) := by rw [signN, ← hrl, sizeL]
 rw [hmin] at hn
 have HR : Hid (0 = signGo r.data.toList (min 3 r.size)) := Lh hn.symm
 have hr0 : 0 < r.size := by omega
 have hr0' : (0 : Int) < (r.size : Int) := by omega
 have er : r[0] = x := by
  have hrL : 0 < r.data.toList.length := by rw [sizeL]; exact hr0
  rw [byteE r 0 hr0 hrL]
  have : r.data.toList[0]? = some x := by rw [hrl, List.getElem?_drop]; exact hx
  exact (List.getElem?_eq_some_iff.1 this).2
 have b0 : (at_ : Int) ≤ (s.size : Int) := by omega
 have hP : P < w.heap.size := h.lt.1
 have hM : M.blk < w.heap.size := h.lt.2
 have Hr := Lh hr
 have Hrs := Lh hrs
 have Hat := Lh hat
 have Hr0 := Lh hr0
 have Her := Lh er
 clear h hn hmin hrl hrs hx er
 go_enter Tryz.func106, Tryz.ntmps106
 go_wp2_with fail
 generalize hW : w.alloc (.cells #[.int .i64 0, .int .i64 0, .string ⟨#[]⟩, .string ⟨#[]⟩, .string ⟨#[]⟩, .int .i64 0] 42) = W1
 have G1 : Hid (Gr w W1) := Lh (by rw [← hW]; exact (Gr.refl w).alloc _)
 have K1 : Hid (W1.heap[w.heap.size]? = some (.cells #[.int .i64 0, .int .i64 0, .string ⟨#[]⟩, .string ⟨#[]⟩, .string ⟨#[]⟩, .int .i64 0] 42 (0, 0))) := Lh (by rw [← hW]; exact heap_alloc_new w _)
 clear hW
 obtain ⟨c0, c1, c2, c3, c4, c5, c6, c7, cf⟩ := (H.out.gr G1.out).cells
 go_quiet (fail)
 clear c0 c1 c2 c3 c4 c5 c6 c7 cf
 rw [← hr]
 clear hr
 go_wp2_with fail
 go_loopw [4] (fun sc wr => ∃ k : Nat, sc = .int .i64 (k : Int) ∧ k ≤ r.size ∧ Gr W1 wr ∧ Hid (0 = signGo r.data.toList k)) (fun sc _ => nat0 sc)
 case atStart => exact ⟨min 3 r.size, by simp; omega, by omega, (Gr.refl _).drewN _, HR⟩
 case round =>
  obtain ⟨k, rfl, hk, hg, hR⟩ := hrel
  clear HR
  have Hg := Lh hg
  clear hg
  cases k with
  | succ k =>
   have hkb : (k : Int) ≤ 9223372036854775807 := by have := Hrs.out; omega
   have hkc : -9223372036854775808 ≤ (k : Int) := by omega
   have hk1 : (0 : Int) < ((k + 1 : Nat) : Int) := by omega
   have hk2 : ((k + 1 : Nat) : Int) ≤ (r.size : Int) := by omega
   obtain ⟨m, hm⟩ : ∃ m, m = k + 1 := ⟨_, rfl⟩
   have hI := Lh (fun w => HI.out (r.extract 0 (k + 1)) w)
   rw [HE.out] at hI
   have hb : isSignB (r.data.toList.take (k + 1)) = false := by
    cases hb : isSignB (r.data.toList.take (k + 1)) with
    | false => rfl
    | true => have := hR.out; rw [signGo, if_pos hb] at this; cases this
   have hE : Hid (0 = signGo r.data.toList k) := Lh (by have := hR.out; rw [signGo, hb] at this; simpa using this)
   have hks : ((k + 1 : Nat) : Int) - 1 = (k : Int) := by omega
   rw [hb] at hI
   rw [← hm] at hI hk1 hk2 hks ⊢
   have Hm := Lh hm
   clear hb hR HI HE hm
   go_wp2_with fail
   refine (hI.out _).mono ?_
   rintro e w2 ⟨rfl, rfl⟩
   go_wp2_with fail
   go_roundw
   case rel => exact ⟨k, rfl, by omega, Hg.out, hE⟩
   case measure => have := Hm.out; simp only [nat0]; omega
  | zero =>
   have hr0b := Hr0.out
   have hr0' : (0 : Int) < (r.size : Int) := by omega
   have er := Her.out
   obtain ⟨c0, c1, c2, c3, c4, c5, c6, c7, cf⟩ := (H.out.gr (Gr.trans G1.out Hg.out)).cells
   have B1 := Lh (But.of_gr (P := P) (Gr.trans G1.out Hg.out))
   have h4 : tm = false ∨ (tm = true ∧ ((x.toNat : Int) == 36) = false ∧ ((x.toNat : Int) == 64) = false) ∨ (tm = true ∧ decide (1 < r.size) = false ∧ decide ((1 : Int) < (r.size : Int)) = false ∧ (((x.toNat : Int) == 36) = true ∨ (((x.toNat : Int) == 36) = false ∧ ((x.toNat : Int) == 64) = true))) := by
    cases tm with
    | false => exact .inl rfl
    | true =>
     by_cases h36 : x = 36 ∨ x = 64
     ·rcases hc with hc | hc | hc
      ·cases hc
      ·rcases h36 with h | h
       ·exact absurd h hc.1
       ·exact absurd h hc.2
      ·have := Hrs.out
       refine .inr (.inr ⟨rfl, by simp; omega, by simp; omega, ?_⟩)
       rcases h36 with rfl | rfl
       ·exact .inl rfl
       ·exact .inr ⟨rfl, rfl⟩
     ·exact .inr (.inl ⟨rfl, u8_ne (k := 36) (fun e => h36 (.inl e)), u8_ne (k := 64) (fun e => h36 (.inr e))⟩)
   clear hc hR K1 HI HE
   rcases h4 with rfl | ⟨rfl, h5, h6⟩ | ⟨rfl, h5, h5', h6 | ⟨h6, h7⟩⟩
   all_goals
    go_wp2_with fail
    exact ⟨rfl, ⟨at_, Hat.out, rfl⟩, B1.out⟩
set_option maxRecDepth 100000 in
set_option maxHeartbeats 1000000 in
theorem sign_bad2 (h : Sc w P M s at_ en tm tv bv ov) (hs : s.size ≤ 140737488351232) (x : UInt8) (hx : s.data.toList[at_]? = some x) (hn : signN (s.data.toList.drop at_) = 0) (d : UInt8) (hd : s.data.toList[at_ + 1]? = some d) (hc : d ≠ 36 ∧ d ≠ 123) :
  Calls Tryz.prog 106 #[.pointer (some ⟨P, 0, none⟩)] w fun e w' => Bad s e ∧ But P w w' := by
 have H := Lh h
 have hL : at_ < s.data.toList.length := (List.getElem?_eq_some_iff.1 hx).1
 have hat : at_ < s.size := by rw [sizeL] at hL; exact hL
 have HI := Lh isSign_p
 obtain ⟨r, hr⟩ : ∃ r, r = s.extract at_ s.size := ⟨_, rfl⟩
 have hrs : r.size = s.size - at_ := by rw [hr]; simp [ByteArray.size_extract]
 have hrl : r.data.toList = s.data.toList.drop at_ := by rw [hr, dropE]
 have HE : Hid (∀ k : Nat, (r.extract 0 k).data.toList = r.data.toList.take k) := Lh (fun k => by rw [extractE]; simp)
 have hmin : signN (s.data.toList.drop at_) = signGo r.data.toList (min 3 r.size) := by rw [signN, ← hrl, sizeL]
 rw [hmin] at hn
 have HR : Hid (0 = signGo r.data.toList (min 3 r.size)) := Lh hn.symm
 have hr0 : 0 < r.size := by omega
 have hr0' : (0 : Int) < (r.size : Int) := by omega
 have er : r[0] = x := by
  have hrL : 0 < r.data.toList.length := by rw [sizeL]; exact hr0
  rw [byteE r 0 hr0 hrL]
  have : r.data.toList[0]? = some x := by rw [hrl, List.getElem?_drop]; exact hx
  exact (List.getElem?_eq_some_iff.1 this).2
 have hd1 : at_ + 1 < s.size := by have := (List.getElem?_eq_some_iff.1 hd).1; rw [sizeL] at this; exact this
 have hr1 : 1 < r.size := by omega
 have er1 : r[1] = d := by
  have hrL : 1 < r.data.toList.length := by rw [sizeL]; exact hr1
  rw [byteE r 1 hr1 hrL]
  have : r.data.toList[1]? = some d := by rw [hrl, List.getElem?_drop]; exact hd
  exact (List.getElem?_eq_some_iff.1 this).2
 have Hr1 := Lh hr1
 have Her1 := Lh er1
 clear er1 hd hd1
 have b0 : (at_ : Int) ≤ (s.size : Int) := by omega
 have hP : P < w.heap.size := h.lt.1
 have hM : M.blk < w.heap.size := h.lt.2
 have Hr := Lh hr
 have Hrs := Lh hrs
 have Hat := Lh hat
 have Hr0 := Lh hr0
 have Her := Lh er
 clear h hn hmin hrl hrs hx er
 go_enter Tryz.func106, Tryz.ntmps106
 go_wp2_with fail
 generalize hW : w.alloc (.cells #[.int .i64 0, .int .i64 0, .string ⟨#[]⟩, .string ⟨#[]⟩, .string ⟨#[]⟩, .int .i64 0] 42) = W1
 have G1 : Hid (Gr w W1) := Lh (by rw [← hW]; exact (Gr.refl w).alloc _)
 have K1 : Hid (W1.heap[w.heap.size]? = some (.cells #[.int .i64 0, .int .i64 0, .string ⟨#[]⟩, .string ⟨#[]⟩, .string ⟨#[]⟩, .int .i64 0] 42 (0, 0))) := Lh (by rw [← hW]; exact heap_alloc_new w _)
 clear hW
 obtain ⟨c0, c1, c2, c3, c4, c5, c6, c7, cf⟩ := (H.out.gr G1.out).cells
 go_quiet (fail)
 clear c0 c1 c2 c3 c4 c5 c6 c7 cf
 rw [← hr]
 clear hr
 go_wp2_with fail
 go_loopw [4] (fun sc wr => ∃ k : Nat, sc = .int .i64 (k : Int) ∧ k ≤ r.size ∧ Gr W1 wr ∧ Hid (0 = signGo r.data.toList k)) (fun sc _ => nat0 sc)
 case atStart => exact ⟨min 3 r.size, by simp; omega, by omega, (Gr.refl _).drewN _, HR⟩
 case round =>
  obtain ⟨k, rfl, hk, hg, hR⟩ := hrel
  clear HR
  have Hg := Lh hg
  clear hg
  cases k with
  | succ k =>
   have hkb : (k : Int) ≤ 9223372036854775807 := by have := Hrs.out; omega
   have hkc : -9223372036854775808 ≤ (k : Int) := by omega
   have hk1 : (0 : Int) < ((k + 1 : Nat) : Int) := by omega
   have hk2 : ((k + 1 : Nat) : Int) ≤ (r.size : Int) := by omega
   obtain ⟨m, hm⟩ : ∃ m, m = k + 1 := ⟨_, rfl⟩
   have hI := Lh (fun w => HI.out (r.extract 0 (k + 1)) w)
   rw [HE.out] at hI
   have hb : isSignB (r.data.toList.take (k + 1)) = false := by
    cases hb : isSignB (r.data.toList.take (k + 1)) with
    | false => rfl
    | true => have := hR.out; rw [signGo, if_pos hb] at this; cases this
   have hE : Hid (0 = signGo r.data.toList k) := Lh (by have := hR.out; rw [signGo, hb] at this; simpa using this)
   have hks : ((k + 1 : Nat) : Int) - 1 = (k : Int) := by omega
   rw [hb] at hI
   rw [← hm] at hI hk1 hk2 hks ⊢
   have Hm := Lh hm
   clear hb hR HI HE hm
   go_wp2_with fail
   refine (hI.out _).mono ?_
   rintro e w2 ⟨rfl, rfl⟩
   go_wp2_with fail
   go_roundw
   case rel => exact ⟨k, rfl, by omega, Hg.out, hE⟩
   case measure => have := Hm.out; simp only [nat0]; omega
  | zero =>
   have hr0b := Hr0.out
   have hr0' : (0 : Int) < (r.size : Int) := by omega
   have er := Her.out
   obtain ⟨c0, c1, c2, c3, c4, c5, c6, c7, cf⟩ := (H.out.gr (Gr.trans G1.out Hg.out)).cells
   have hr1b := Hr1.out
   have hr1' : (1 : Int) < (r.size : Int) := by omega
   have er1 := Her1.out
   have B1 := Lh (But.of_gr (P := P) (Gr.trans G1.out Hg.out))
   have d1 : ((d.toNat : Int) == 36) = false := u8_ne (k := 36) hc.1
   have d2 : ((d.toNat : Int) == 123) = false := u8_ne (k := 123) hc.2
   have h4 : tm = false ∨ (tm = true ∧ ((x.toNat : Int) == 36) = false ∧ ((x.toNat : Int) == 64) = false) ∨ (tm = true ∧ (((x.toNat : Int) == 36) = true ∨ (((x.toNat : Int) == 36) = false ∧ ((x.toNat : Int) == 64) = true))) := by
    cases tm with
    | false => exact .inl rfl
    | true =>
     by_cases h36 : x = 36
     ·subst h36; exact .inr (.inr ⟨rfl, .inl rfl⟩)
     ·by_cases h64 : x = 64
      ·subst h64; exact .inr (.inr ⟨rfl, .inr ⟨rfl, rfl⟩⟩)
      ·exact .inr (.inl ⟨rfl, u8_ne (k := 36) h36, u8_ne (k := 64) h64⟩)
   clear hc hR K1 HI HE
   rcases h4 with rfl | ⟨rfl, h5, h6⟩ | ⟨rfl, h6 | ⟨h6, h7⟩⟩
   all_goals
    go_wp2_with fail
    exact ⟨rfl, ⟨at_, Hat.out, rfl⟩, B1.out⟩
end Go.Proofs.YthmopindibdhnaaGreatDoor.G
