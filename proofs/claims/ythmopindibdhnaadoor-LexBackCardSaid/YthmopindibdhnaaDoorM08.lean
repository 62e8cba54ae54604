/- GVar GSign -/
import Derived.Test.YthmopindibdhnaaDoorM07
namespace Go.Proofs.YthmopindibdhnaaDoor.G
open Go.RowKit Go.Shelf Go.Maps
variable {w w' : World} {P : Nat} {M : GoMap} {s : ByteArray} {at_ en : Nat} {tm : Bool} {tv bv ov : Value}
theorem u8_ne {x k : UInt8} (h : x ≠ k) : ((x.toNat : Int) == (k.toNat : Int)) = false := by
  simp only [beq_eq_false_iff_ne, ne_eq]
  intro e
  exact h (UInt8.toNat_inj.1 (by omega))
set_option maxRecDepth 100000 in
set_option maxHeartbeats 1000000 in
theorem variable_end (h : Sc w P M s at_ en tm tv bv ov) (hs : s.size ≤ 140737488351232) (x : UInt8) (hx : s.data.toList[at_]? = some x) (hn : sigilB x.toNat = true) (hz : at_ + 1 = s.size) :
    Calls Tryd.prog 41 #[.pointer (some ⟨P, 0, none⟩)] w fun e w' => e = .returned (.tuple #[tok0.val, .bool false]) ∧ Sc w' P M s at_ en tm tv bv ov ∧ But P w w' := by
  have H := Lib.hid h
  have HS := Lib.hid (fun w => sigil_p x.toNat w)
  rw [hn] at HS
  have hL : at_ < s.data.toList.length := (List.getElem?_eq_some_iff.1 hx).1
  have hat0 : at_ < s.size := by rw [sizeL] at hL; exact hL
  have en_ : s[at_] = x := by rw [byteE s at_ hat0 hL]; exact (List.getElem?_eq_some_iff.1 hx).2
  have b0 : (at_ : Int) < (s.size : Int) := by omega
  have b1 : (at_ : Int) + 1 ≤ 9223372036854775807 := by omega
  have b2 : -9223372036854775808 ≤ (at_ : Int) + 1 := by omega
  have b3 : (at_ : Int) + 1 ≤ (s.size : Int) := by omega
  obtain ⟨r, hr⟩ : ∃ r, r = s.extract (at_ + 1) s.size := ⟨_, rfl⟩
  have Hr := Lib.hid hr
  have hne : (r.toList == []) = true := by
    rw [ByteArray.toList_eq, hr, dropE, List.drop_eq_nil_of_le (by rw [sizeL]; omega)]; rfl

  have hP : P < w.heap.size := h.lt.1
  have hM : M.blk < w.heap.size := h.lt.2
  have Hat := Lib.hid hat0
  clear h hx hn hr hz
  go_enter Tryd.func41, Tryd.ntmps41
  go_wp2_with fail
  generalize hW : w.alloc (.cells #[.int .i64 0, .int .i64 0, .string ⟨#[]⟩, .string ⟨#[]⟩, .string ⟨#[]⟩, .int .i64 0] 32) = W1
  have G1 : Hid (Gr w W1) := Lib.hid (by rw [← hW]; exact (Gr.refl w).alloc _)
  have K1 : Hid (W1.heap[w.heap.size]? = some (.cells #[.int .i64 0, .int .i64 0, .string ⟨#[]⟩, .string ⟨#[]⟩, .string ⟨#[]⟩, .int .i64 0] 32 (0, 0))) := Lib.hid (by rw [← hW]; exact heap_alloc_new w _)
  clear hW
  obtain ⟨c0, c1, c2, c3, c4, c5, c6, c7, cf⟩ := (H.out.gr G1.out).cells
  go_quiet (fail)
  clear c0 c1 c2 c3 c4 c5 c6 c7 cf
  rw [← Hr.out]
  go_wp2_with fail
  refine (HS.out _).mono ?_
  rintro e w2 ⟨rfl, rfl⟩
  go_wp2_with (refine wpList_store_tok rfl (.tmp 2) (.tmp 33) rfl (t := tok0) rfl rfl K1.out rfl ?_)
  intro W3 hb3 hk3
  have B3 := Lib.hid hb3
  have K3 := Lib.hid hk3
  clear hb3 hk3
  go_wp2_with fail
  refine bodyPost_ret (results_tokB rfl rfl K3.out rfl) rfl ?_
  exact ⟨rfl, (H.out.gr (G1.out.drewN _)).but B3.out (by omega) (by omega), (But.of_gr (G1.out.drewN _)).late (Nat.le_refl _) B3.out⟩
set_option maxRecDepth 100000 in
set_option maxHeartbeats 1000000 in
theorem variable_n1 (h : Sc w P M s at_ en tm tv bv ov) (hs : s.size ≤ 140737488351232) (x : UInt8) (hx : s.data.toList[at_]? = some x) (hn : sigilB x.toNat = true) (d : UInt8) (hd : s.data.toList[at_ + 1]? = some d) (hw : wordN (s.data.toList.drop (at_ + 1)) = 0) (hc : x ≠ 36) :
    Calls Tryd.prog 41 #[.pointer (some ⟨P, 0, none⟩)] w fun e w' => e = .returned (.tuple #[tok0.val, .bool false]) ∧ Sc w' P M s at_ en tm tv bv ov ∧ But P w w' := by
  have H := Lib.hid h
  have HS := Lib.hid (fun w => sigil_p x.toNat w)
  rw [hn] at HS
  have hL : at_ < s.data.toList.length := (List.getElem?_eq_some_iff.1 hx).1
  have hat0 : at_ < s.size := by rw [sizeL] at hL; exact hL
  have en_ : s[at_] = x := by rw [byteE s at_ hat0 hL]; exact (List.getElem?_eq_some_iff.1 hx).2
  have b0 : (at_ : Int) < (s.size : Int) := by omega
  have b1 : (at_ : Int) + 1 ≤ 9223372036854775807 := by omega
  have b2 : -9223372036854775808 ≤ (at_ : Int) + 1 := by omega
  have b3 : (at_ : Int) + 1 ≤ (s.size : Int) := by omega
  obtain ⟨r, hr⟩ : ∃ r, r = s.extract (at_ + 1) s.size := ⟨_, rfl⟩
  have Hr := Lib.hid hr
  have hd1 : at_ + 1 < s.size := by have := (List.getElem?_eq_some_iff.1 hd).1; rw [sizeL] at this; exact this
  have hrs : r.size = s.size - (at_ + 1) := by rw [hr]; simp [ByteArray.size_extract]
  have hrl : r.data.toList = s.data.toList.drop (at_ + 1) := by rw [hr, dropE]
  have hr0 : 0 < r.size := by omega
  have hr0' : (0 : Int) < (r.size : Int) := by omega
  have er : r[0] = d := by
    have hrL : 0 < r.data.toList.length := by rw [sizeL]; exact hr0
    rw [byteE r 0 hr0 hrL]
    have : r.data.toList[0]? = some d := by rw [hrl, List.getElem?_drop]; exact hd
    exact (List.getElem?_eq_some_iff.1 this).2
  have hne : (r.toList == []) = false := by
    rw [ByteArray.toList_eq, hrl]
    have : s.data.toList.drop (at_ + 1) ≠ [] := fun e => by have := congrArg List.length e; rw [List.length_drop, sizeL] at this; simp at this; omega
    simpa using this
  have HW := Lib.hid (fun w => word_p r (by omega) w)
  rw [hrl, hw] at HW
  have t36 : ((x.toNat : Int) == 36) = false := u8_ne hc

  have hP : P < w.heap.size := h.lt.1
  have hM : M.blk < w.heap.size := h.lt.2
  have Hat := Lib.hid hat0
  clear h hx hn hr hd hw hc hd1 hrs hrl
  go_enter Tryd.func41, Tryd.ntmps41
  go_wp2_with fail
  generalize hW : w.alloc (.cells #[.int .i64 0, .int .i64 0, .string ⟨#[]⟩, .string ⟨#[]⟩, .string ⟨#[]⟩, .int .i64 0] 32) = W1
  have G1 : Hid (Gr w W1) := Lib.hid (by rw [← hW]; exact (Gr.refl w).alloc _)
  have K1 : Hid (W1.heap[w.heap.size]? = some (.cells #[.int .i64 0, .int .i64 0, .string ⟨#[]⟩, .string ⟨#[]⟩, .string ⟨#[]⟩, .int .i64 0] 32 (0, 0))) := Lib.hid (by rw [← hW]; exact heap_alloc_new w _)
  clear hW
  obtain ⟨c0, c1, c2, c3, c4, c5, c6, c7, cf⟩ := (H.out.gr G1.out).cells
  go_quiet (fail)
  clear c0 c1 c2 c3 c4 c5 c6 c7 cf
  rw [← Hr.out]
  go_wp2_with fail
  refine (HS.out _).mono ?_
  rintro e w2 ⟨rfl, rfl⟩
  go_wp2_with fail
  refine (HW.out _).mono ?_
  rintro e w2 ⟨rfl, rfl⟩
  go_wp2_with (refine wpList_store_tok rfl (.tmp 2) (.tmp 66) rfl (t := tok0) rfl rfl K1.out rfl ?_)
  intro W3 hb3 hk3
  have B3 := Lib.hid hb3
  have K3 := Lib.hid hk3
  clear hb3 hk3
  go_wp2_with fail
  refine bodyPost_ret (results_tokB rfl rfl K3.out rfl) rfl ?_
  exact ⟨rfl, (H.out.gr (G1.out.drewN _)).but B3.out (by omega) (by omega), (But.of_gr (G1.out.drewN _)).late (Nat.le_refl _) B3.out⟩
set_option maxRecDepth 100000 in
set_option maxHeartbeats 1000000 in
theorem variable_n2 (h : Sc w P M s at_ en tm tv bv ov) (hs : s.size ≤ 140737488351232) (x : UInt8) (hx : s.data.toList[at_]? = some x) (hn : sigilB x.toNat = true) (d : UInt8) (hd : s.data.toList[at_ + 1]? = some d) (hw : wordN (s.data.toList.drop (at_ + 1)) = 0) (hc : x = 36) (hsp : specB d.toNat = false) :
    Calls Tryd.prog 41 #[.pointer (some ⟨P, 0, none⟩)] w fun e w' => e = .returned (.tuple #[tok0.val, .bool false]) ∧ Sc w' P M s at_ en tm tv bv ov ∧ But P w w' := by
  have H := Lib.hid h
  have HS := Lib.hid (fun w => sigil_p x.toNat w)
  rw [hn] at HS
  have hL : at_ < s.data.toList.length := (List.getElem?_eq_some_iff.1 hx).1
  have hat0 : at_ < s.size := by rw [sizeL] at hL; exact hL
  have en_ : s[at_] = x := by rw [byteE s at_ hat0 hL]; exact (List.getElem?_eq_some_iff.1 hx).2
  have b0 : (at_ : Int) < (s.size : Int) := by omega
  have b1 : (at_ : Int) + 1 ≤ 9223372036854775807 := by omega
  have b2 : -9223372036854775808 ≤ (at_ : Int) + 1 := by omega
  have b3 : (at_ : Int) + 1 ≤ (s.size : Int) := by omega
  obtain ⟨r, hr⟩ : ∃ r, r = s.extract (at_ + 1) s.size := ⟨_, rfl⟩
  have Hr := Lib.hid hr
  have hd1 : at_ + 1 < s.size := by have := (List.getElem?_eq_some_iff.1 hd).1; rw [sizeL] at this; exact this
  have hrs : r.size = s.size - (at_ + 1) := by rw [hr]; simp [ByteArray.size_extract]
  have hrl : r.data.toList = s.data.toList.drop (at_ + 1) := by rw [hr, dropE]
  have hr0 : 0 < r.size := by omega
  have hr0' : (0 : Int) < (r.size : Int) := by omega
  have er : r[0] = d := by
    have hrL : 0 < r.data.toList.length := by rw [sizeL]; exact hr0
    rw [byteE r 0 hr0 hrL]
    have : r.data.toList[0]? = some d := by rw [hrl, List.getElem?_drop]; exact hd
    exact (List.getElem?_eq_some_iff.1 this).2
  have hne : (r.toList == []) = false := by
    rw [ByteArray.toList_eq, hrl]
    have : s.data.toList.drop (at_ + 1) ≠ [] := fun e => by have := congrArg List.length e; rw [List.length_drop, sizeL] at this; simp at this; omega
    simpa using this
  have HW := Lib.hid (fun w => word_p r (by omega) w)
  rw [hrl, hw] at HW
  have t36 : ((x.toNat : Int) == 36) = true := by rw [hc]; rfl
  have HI := Lib.hid (fun w => idx_any ⟨#[64, 38, 49, 50, 51, 52, 53, 54, 55, 56, 57]⟩ d.toNat w)
  rw [show (⟨#[64, 38, 49, 50, 51, 52, 53, 54, 55, 56, 57]⟩ : ByteArray).data.toList = [64, 38, 49, 50, 51, 52, 53, 54, 55, 56, 57] from rfl] at HI
  unfold specB at hsp
  generalize Lib.indexByte [64, 38, 49, 50, 51, 52, 53, 54, 55, 56, 57] ((d.toNat : Int)).toNat.toUInt8 = ix at *
  have hix : decide (0 ≤ ix) = false := hsp

  have hP : P < w.heap.size := h.lt.1
  have hM : M.blk < w.heap.size := h.lt.2
  have Hat := Lib.hid hat0
  clear h hx hn hr hd hw hc hd1 hrs hrl hsp
  go_enter Tryd.func41, Tryd.ntmps41
  go_wp2_with fail
  generalize hW : w.alloc (.cells #[.int .i64 0, .int .i64 0, .string ⟨#[]⟩, .string ⟨#[]⟩, .string ⟨#[]⟩, .int .i64 0] 32) = W1
  have G1 : Hid (Gr w W1) := Lib.hid (by rw [← hW]; exact (Gr.refl w).alloc _)
  have K1 : Hid (W1.heap[w.heap.size]? = some (.cells #[.int .i64 0, .int .i64 0, .string ⟨#[]⟩, .string ⟨#[]⟩, .string ⟨#[]⟩, .int .i64 0] 32 (0, 0))) := Lib.hid (by rw [← hW]; exact heap_alloc_new w _)
  clear hW
  obtain ⟨c0, c1, c2, c3, c4, c5, c6, c7, cf⟩ := (H.out.gr G1.out).cells
  go_quiet (fail)
  clear c0 c1 c2 c3 c4 c5 c6 c7 cf
  rw [← Hr.out]
  go_wp2_with fail
  refine (HS.out _).mono ?_
  rintro e w2 ⟨rfl, rfl⟩
  go_wp2_with fail
  refine (HW.out _).mono ?_
  rintro e w2 ⟨rfl, rfl⟩
  go_wp2_with fail
  refine (HI.out _).mono ?_
  rintro e w2 ⟨rfl, rfl⟩
  go_wp2_with (refine wpList_store_tok rfl (.tmp 2) (.tmp 66) rfl (t := tok0) rfl rfl K1.out rfl ?_)
  intro W3 hb3 hk3
  have B3 := Lib.hid hb3
  have K3 := Lib.hid hk3
  clear hb3 hk3
  go_wp2_with fail
  refine bodyPost_ret (results_tokB rfl rfl K3.out rfl) rfl ?_
  exact ⟨rfl, (H.out.gr (G1.out.drewN _)).but B3.out (by omega) (by omega), (But.of_gr (G1.out.drewN _)).late (Nat.le_refl _) B3.out⟩
set_option maxRecDepth 100000 in
set_option maxHeartbeats 1000000 in
theorem variable_sp (h : Sc w P M s at_ en tm tv bv ov) (hs : s.size ≤ 140737488351232) (x : UInt8) (hx : s.data.toList[at_]? = some x) (hn : sigilB x.toNat = true) (d : UInt8) (hd : s.data.toList[at_ + 1]? = some d) (hw : wordN (s.data.toList.drop (at_ + 1)) = 0) (hc : x = 36) (hsp : specB d.toNat = true) :
    Calls Tryd.prog 41 #[.pointer (some ⟨P, 0, none⟩)] w fun e w' => e = .returned (.tuple #[(tok 2 (s.extract at_ (at_ + 2))).val, .bool true]) ∧ Sc w' P M s (at_ + 2) en tm tv bv ov ∧ But P w w' := by
  have H := Lib.hid h
  have HS := Lib.hid (fun w => sigil_p x.toNat w)
  rw [hn] at HS
  have hL : at_ < s.data.toList.length := (List.getElem?_eq_some_iff.1 hx).1
  have hat0 : at_ < s.size := by rw [sizeL] at hL; exact hL
  have en_ : s[at_] = x := by rw [byteE s at_ hat0 hL]; exact (List.getElem?_eq_some_iff.1 hx).2
  have b0 : (at_ : Int) < (s.size : Int) := by omega
  have b1 : (at_ : Int) + 1 ≤ 9223372036854775807 := by omega
  have b2 : -9223372036854775808 ≤ (at_ : Int) + 1 := by omega
  have b3 : (at_ : Int) + 1 ≤ (s.size : Int) := by omega
  obtain ⟨r, hr⟩ : ∃ r, r = s.extract (at_ + 1) s.size := ⟨_, rfl⟩
  have Hr := Lib.hid hr
  have hd1 : at_ + 1 < s.size := by have := (List.getElem?_eq_some_iff.1 hd).1; rw [sizeL] at this; exact this
  have hrs : r.size = s.size - (at_ + 1) := by rw [hr]; simp [ByteArray.size_extract]
  have hrl : r.data.toList = s.data.toList.drop (at_ + 1) := by rw [hr, dropE]
  have hr0 : 0 < r.size := by omega
  have hr0' : (0 : Int) < (r.size : Int) := by omega
  have er : r[0] = d := by
    have hrL : 0 < r.data.toList.length := by rw [sizeL]; exact hr0
    rw [byteE r 0 hr0 hrL]
    have : r.data.toList[0]? = some d := by rw [hrl, List.getElem?_drop]; exact hd
    exact (List.getElem?_eq_some_iff.1 this).2
  have hne : (r.toList == []) = false := by
    rw [ByteArray.toList_eq, hrl]
    have : s.data.toList.drop (at_ + 1) ≠ [] := fun e => by have := congrArg List.length e; rw [List.length_drop, sizeL] at this; simp at this; omega
    simpa using this
  have HW := Lib.hid (fun w => word_p r (by omega) w)
  rw [hrl, hw] at HW
  have t36 : ((x.toNat : Int) == 36) = true := by rw [hc]; rfl
  have HI := Lib.hid (fun w => idx_any ⟨#[64, 38, 49, 50, 51, 52, 53, 54, 55, 56, 57]⟩ d.toNat w)
  rw [show (⟨#[64, 38, 49, 50, 51, 52, 53, 54, 55, 56, 57]⟩ : ByteArray).data.toList = [64, 38, 49, 50, 51, 52, 53, 54, 55, 56, 57] from rfl] at HI
  unfold specB at hsp
  generalize Lib.indexByte [64, 38, 49, 50, 51, 52, 53, 54, 55, 56, 57] ((d.toNat : Int)).toNat.toUInt8 = ix at *
  have hix : 0 ≤ ix := by simpa using hsp
  have HT := Lib.hid (fun (W : World) (hS : Sc W P M s at_ en tm tv bv ov) => take_m hS 2 (by omega) hs)

  have hP : P < w.heap.size := h.lt.1
  have hM : M.blk < w.heap.size := h.lt.2
  have Hat := Lib.hid hat0
  clear h hx hn hr hd hw hc hd1 hrs hrl hsp
  go_enter Tryd.func41, Tryd.ntmps41
  go_wp2_with fail
  generalize hW : w.alloc (.cells #[.int .i64 0, .int .i64 0, .string ⟨#[]⟩, .string ⟨#[]⟩, .string ⟨#[]⟩, .int .i64 0] 32) = W1
  have G1 : Hid (Gr w W1) := Lib.hid (by rw [← hW]; exact (Gr.refl w).alloc _)
  have K1 : Hid (W1.heap[w.heap.size]? = some (.cells #[.int .i64 0, .int .i64 0, .string ⟨#[]⟩, .string ⟨#[]⟩, .string ⟨#[]⟩, .int .i64 0] 32 (0, 0))) := Lib.hid (by rw [← hW]; exact heap_alloc_new w _)
  clear hW
  obtain ⟨c0, c1, c2, c3, c4, c5, c6, c7, cf⟩ := (H.out.gr G1.out).cells
  go_quiet (fail)
  clear c0 c1 c2 c3 c4 c5 c6 c7 cf
  rw [← Hr.out]
  go_wp2_with fail
  refine (HS.out _).mono ?_
  rintro e w2 ⟨rfl, rfl⟩
  go_wp2_with fail
  refine (HW.out _).mono ?_
  rintro e w2 ⟨rfl, rfl⟩
  go_wp2_with fail
  refine (HI.out _).mono ?_
  rintro e w2 ⟨rfl, rfl⟩
  clear b1 b2 b3
  go_wp2_with fail
  refine (HT.out _ (H.out.gr (G1.out.drewN _))).mono ?_
  rintro e w2 ⟨rfl, hS2, hb2⟩
  have K2 := Lib.hid ((hb2.block _ (Array.getElem?_eq_some_iff.1 K1.out).1 (by simp; omega)).trans K1.out)
  have B2 := Lib.hid ((But.of_gr (G1.out.drewN _)).trans hb2)
  have S2 := Lib.hid hS2
  clear hS2 hb2 K1 HT HW
  go_wp2_with (refine wpList_store_tok rfl (.tmp 2) (.tmp 71) rfl (t := tok 2 (s.extract at_ (at_ + 2))) rfl rfl K2.out rfl ?_)
  intro W3 hb3 hk3
  have B3 := Lib.hid hb3
  have K3 := Lib.hid hk3
  clear hb3 hk3
  go_wp2_with fail
  refine bodyPost_ret (results_tokB rfl rfl K3.out rfl) rfl ?_
  exact ⟨rfl, S2.out.but B3.out (by omega) (by omega), B2.out.late (Nat.le_refl _) B3.out⟩
set_option maxRecDepth 100000 in
set_option maxHeartbeats 1000000 in
theorem variable_bad (h : Sc w P M s at_ en tm tv bv ov) (hs : s.size ≤ 140737488351232) (x : UInt8) (hx : s.data.toList[at_]? = some x) (hn : sigilB x.toNat = true) (d : UInt8) (hd : s.data.toList[at_ + 1]? = some d) (n : Nat) (hw : wordN (s.data.toList.drop (at_ + 1)) = n) (h12 : 12 < n) (h95 : d ≠ 95) :
    Calls Tryd.prog 41 #[.pointer (some ⟨P, 0, none⟩)] w fun e w' => Bad s e ∧ But P w w' := by
  have H := Lib.hid h
  have HS := Lib.hid (fun w => sigil_p x.toNat w)
  rw [hn] at HS
  have hL : at_ < s.data.toList.length := (List.getElem?_eq_some_iff.1 hx).1
  have hat0 : at_ < s.size := by rw [sizeL] at hL; exact hL
  have en_ : s[at_] = x := by rw [byteE s at_ hat0 hL]; exact (List.getElem?_eq_some_iff.1 hx).2
  have b0 : (at_ : Int) < (s.size : Int) := by omega
  have b1 : (at_ : Int) + 1 ≤ 9223372036854775807 := by omega
  have b2 : -9223372036854775808 ≤ (at_ : Int) + 1 := by omega
  have b3 : (at_ : Int) + 1 ≤ (s.size : Int) := by omega
  obtain ⟨r, hr⟩ : ∃ r, r = s.extract (at_ + 1) s.size := ⟨_, rfl⟩
  have Hr := Lib.hid hr
  have hd1 : at_ + 1 < s.size := by have := (List.getElem?_eq_some_iff.1 hd).1; rw [sizeL] at this; exact this
  have hrs : r.size = s.size - (at_ + 1) := by rw [hr]; simp [ByteArray.size_extract]
  have hrl : r.data.toList = s.data.toList.drop (at_ + 1) := by rw [hr, dropE]
  have hr0 : 0 < r.size := by omega
  have hr0' : (0 : Int) < (r.size : Int) := by omega
  have er : r[0] = d := by
    have hrL : 0 < r.data.toList.length := by rw [sizeL]; exact hr0
    rw [byteE r 0 hr0 hrL]
    have : r.data.toList[0]? = some d := by rw [hrl, List.getElem?_drop]; exact hd
    exact (List.getElem?_eq_some_iff.1 this).2
  have hne : (r.toList == []) = false := by
    rw [ByteArray.toList_eq, hrl]
    have : s.data.toList.drop (at_ + 1) ≠ [] := fun e => by have := congrArg List.length e; rw [List.length_drop, sizeL] at this; simp at this; omega
    simpa using this
  have HW := Lib.hid (fun w => word_p r (by omega) w)
  rw [hrl, hw] at HW
  have n0 : ((n : Int) == 0) = false := by simp; omega
  have n1 : (n : Int) > 12 := by omega
  have t95 : ((d.toNat : Int) != 95) = true := by have := u8_ne h95; simpa using this

  have hP : P < w.heap.size := h.lt.1
  have hM : M.blk < w.heap.size := h.lt.2
  have Hat := Lib.hid hat0
  clear h hx hn hr hd hw hd1 hrs hrl h12 h95
  go_enter Tryd.func41, Tryd.ntmps41
  go_wp2_with fail
  generalize hW : w.alloc (.cells #[.int .i64 0, .int .i64 0, .string ⟨#[]⟩, .string ⟨#[]⟩, .string ⟨#[]⟩, .int .i64 0] 32) = W1
  have G1 : Hid (Gr w W1) := Lib.hid (by rw [← hW]; exact (Gr.refl w).alloc _)
  have K1 : Hid (W1.heap[w.heap.size]? = some (.cells #[.int .i64 0, .int .i64 0, .string ⟨#[]⟩, .string ⟨#[]⟩, .string ⟨#[]⟩, .int .i64 0] 32 (0, 0))) := Lib.hid (by rw [← hW]; exact heap_alloc_new w _)
  clear hW
  obtain ⟨c0, c1, c2, c3, c4, c5, c6, c7, cf⟩ := (H.out.gr G1.out).cells
  go_quiet (fail)
  rw [← Hr.out]
  go_wp2_with fail
  refine (HS.out _).mono ?_
  rintro e w2 ⟨rfl, rfl⟩
  go_wp2_with fail
  refine (HW.out _).mono ?_
  rintro e w2 ⟨rfl, rfl⟩
  go_wp2_with fail
  exact ⟨rfl, ⟨at_, Hat.out, rfl⟩, But.of_gr (G1.out.drewN _)⟩
set_option maxRecDepth 100000 in
set_option maxHeartbeats 1000000 in
theorem variable_us (h : Sc w P M s at_ en tm tv bv ov) (hs : s.size ≤ 140737488351232) (x : UInt8) (hx : s.data.toList[at_]? = some x) (hn : sigilB x.toNat = true) (d : UInt8) (hd : s.data.toList[at_ + 1]? = some d) (n : Nat) (hw : wordN (s.data.toList.drop (at_ + 1)) = n) (h12 : 12 < n) (h95 : d = 95) :
    Calls Tryd.prog 41 #[.pointer (some ⟨P, 0, none⟩)] w fun e w' => e = .returned (.tuple #[tok0.val, .bool false]) ∧ Sc w' P M s at_ en tm tv bv ov ∧ But P w w' := by
  have H := Lib.hid h
  have HS := Lib.hid (fun w => sigil_p x.toNat w)
  rw [hn] at HS
  have hL : at_ < s.data.toList.length := (List.getElem?_eq_some_iff.1 hx).1
  have hat0 : at_ < s.size := by rw [sizeL] at hL; exact hL
  have en_ : s[at_] = x := by rw [byteE s at_ hat0 hL]; exact (List.getElem?_eq_some_iff.1 hx).2
  have b0 : (at_ : Int) < (s.size : Int) := by omega
  have b1 : (at_ : Int) + 1 ≤ 9223372036854775807 := by omega
  have b2 : -9223372036854775808 ≤ (at_ : Int) + 1 := by omega
  have b3 : (at_ : Int) + 1 ≤ (s.size : Int) := by omega
  obtain ⟨r, hr⟩ : ∃ r, r = s.extract (at_ + 1) s.size := ⟨_, rfl⟩
  have Hr := Lib.hid hr
  have hd1 : at_ + 1 < s.size := by have := (List.getElem?_eq_some_iff.1 hd).1; rw [sizeL] at this; exact this
  have hrs : r.size = s.size - (at_ + 1) := by rw [hr]; simp [ByteArray.size_extract]
  have hrl : r.data.toList = s.data.toList.drop (at_ + 1) := by rw [hr, dropE]
  have hr0 : 0 < r.size := by omega
  have hr0' : (0 : Int) < (r.size : Int) := by omega
  have er : r[0] = d := by
    have hrL : 0 < r.data.toList.length := by rw [sizeL]; exact hr0
    rw [byteE r 0 hr0 hrL]
    have : r.data.toList[0]? = some d := by rw [hrl, List.getElem?_drop]; exact hd
    exact (List.getElem?_eq_some_iff.1 this).2
  have hne : (r.toList == []) = false := by
    rw [ByteArray.toList_eq, hrl]
    have : s.data.toList.drop (at_ + 1) ≠ [] := fun e => by have := congrArg List.length e; rw [List.length_drop, sizeL] at this; simp at this; omega
    simpa using this
  have HW := Lib.hid (fun w => word_p r (by omega) w)
  rw [hrl, hw] at HW
  have n0 : ((n : Int) == 0) = false := by simp; omega
  have n1 : (n : Int) > 12 := by omega
  have t95 : ((d.toNat : Int) != 95) = false := by rw [h95]; rfl

  have hP : P < w.heap.size := h.lt.1
  have hM : M.blk < w.heap.size := h.lt.2
  have Hat := Lib.hid hat0
  clear h hx hn hr hd hw hd1 hrs hrl h12 h95
  go_enter Tryd.func41, Tryd.ntmps41
  go_wp2_with fail
  generalize hW : w.alloc (.cells #[.int .i64 0, .int .i64 0, .string ⟨#[]⟩, .string ⟨#[]⟩, .string ⟨#[]⟩, .int .i64 0] 32) = W1
  have G1 : Hid (Gr w W1) := Lib.hid (by rw [← hW]; exact (Gr.refl w).alloc _)
  have K1 : Hid (W1.heap[w.heap.size]? = some (.cells #[.int .i64 0, .int .i64 0, .string ⟨#[]⟩, .string ⟨#[]⟩, .string ⟨#[]⟩, .int .i64 0] 32 (0, 0))) := Lib.hid (by rw [← hW]; exact heap_alloc_new w _)
  clear hW
  obtain ⟨c0, c1, c2, c3, c4, c5, c6, c7, cf⟩ := (H.out.gr G1.out).cells
  go_quiet (fail)
  clear c0 c1 c2 c3 c4 c5 c6 c7 cf
  rw [← Hr.out]
  go_wp2_with fail
  refine (HS.out _).mono ?_
  rintro e w2 ⟨rfl, rfl⟩
  go_wp2_with fail
  refine (HW.out _).mono ?_
  rintro e w2 ⟨rfl, rfl⟩
  go_wp2_with (refine wpList_store_tok rfl (.tmp 2) (.tmp 66) rfl (t := tok0) rfl rfl K1.out rfl ?_)
  intro W3 hb3 hk3
  have B3 := Lib.hid hb3
  have K3 := Lib.hid hk3
  clear hb3 hk3
  go_wp2_with fail
  refine bodyPost_ret (results_tokB rfl rfl K3.out rfl) rfl ?_
  exact ⟨rfl, (H.out.gr (G1.out.drewN _)).but B3.out (by omega) (by omega), (But.of_gr (G1.out.drewN _)).late (Nat.le_refl _) B3.out⟩
end Go.Proofs.YthmopindibdhnaaDoor.G
namespace Go.Proofs.YthmopindibdhnaaDoor.G
open Go.RowKit Go.Shelf Go.Maps
variable {w w' : World} {P : Nat} {M : GoMap} {s : ByteArray} {at_ en : Nat} {tm : Bool} {tv bv ov : Value}
set_option maxRecDepth 100000 in
set_option maxHeartbeats 1000000 in
theorem sign_of (h : Sc w P M s at_ en tm tv bv ov) (hs : s.size ≤ 140737488351232) (x : UInt8) (hx : s.data.toList[at_]? = some x) (hn : signN (s.data.toList.drop at_) = 0) (d : UInt8) (hd : s.data.toList[at_ + 1]? = some d) (ht : tm = true) (hc : x = 36 ∨ x = 64) (hdd : d = 36 ∨ d = 123) :
    Calls Tryd.prog 46 #[.pointer (some ⟨P, 0, none⟩)] w fun e w' => e = .returned (tok 3 (s.extract at_ (at_ + 1))).val ∧ Sc w' P M s (at_ + 1) en tm tv bv ov ∧ But P w w' := by
  have H := Lib.hid h
  have hL : at_ < s.data.toList.length := (List.getElem?_eq_some_iff.1 hx).1
  have hat : at_ < s.size := by rw [sizeL] at hL; exact hL
  have HI := Lib.hid isSign_p
  obtain ⟨r, hr⟩ : ∃ r, r = s.extract at_ s.size := ⟨_, rfl⟩
  have hrs : r.size = s.size - at_ := by rw [hr]; simp [ByteArray.size_extract]
  have hrl : r.data.toList = s.data.toList.drop at_ := by rw [hr, dropE]
  have HE : Hid (∀ k : Nat, (r.extract 0 k).data.toList = r.data.toList.take k) := Lib.hid (fun k => by rw [extractE]; simp)
  have hmin : signN (s.data.toList.drop at_) = signGo r.data.toList (min 3 r.size) := by rw [signN, ← hrl, sizeL]
  rw [hmin] at hn
  have HR : Hid (0 = signGo r.data.toList (min 3 r.size)) := Lib.hid hn.symm
  have hr0 : 0 < r.size := by omega
  have hr0' : (0 : Int) < (r.size : Int) := by omega
  have er : r[0] = x := by
    have hrL : 0 < r.data.toList.length := by rw [sizeL]; exact hr0
    rw [byteE r 0 hr0 hrL]
    have : r.data.toList[0]? = some x := by rw [hrl, List.getElem?_drop]; exact hx
    exact (List.getElem?_eq_some_iff.1 this).2
  have HT := Lib.hid (fun (W : World) (hS : Sc W P M s at_ en tm tv bv ov) => take_m hS 1 (by omega) hs)
  have hd1 : at_ + 1 < s.size := by have := (List.getElem?_eq_some_iff.1 hd).1; rw [sizeL] at this; exact this
  have hr1 : 1 < r.size := by omega
  have er1 : r[1] = d := by
    have hrL : 1 < r.data.toList.length := by rw [sizeL]; exact hr1
    rw [byteE r 1 hr1 hrL]
    have : r.data.toList[1]? = some d := by rw [hrl, List.getElem?_drop]; exact hd
    exact (List.getElem?_eq_some_iff.1 this).2
  have Hr1 := Lib.hid hr1
  have Her1 := Lib.hid er1
  clear er1 hd hd1

  have b0 : (at_ : Int) ≤ (s.size : Int) := by omega
  have hP : P < w.heap.size := h.lt.1
  have hM : M.blk < w.heap.size := h.lt.2
  have Hr := Lib.hid hr
  have Hrs := Lib.hid hrs
  have Hat := Lib.hid hat
  have Hr0 := Lib.hid hr0
  have Her := Lib.hid er
  clear h hn hmin hrl hrs hx er
  go_enter Tryd.func46, Tryd.ntmps46
  go_wp2_with fail
  generalize hW : w.alloc (.cells #[.int .i64 0, .int .i64 0, .string ⟨#[]⟩, .string ⟨#[]⟩, .string ⟨#[]⟩, .int .i64 0] 32) = W1
  have G1 : Hid (Gr w W1) := Lib.hid (by rw [← hW]; exact (Gr.refl w).alloc _)
  have K1 : Hid (W1.heap[w.heap.size]? = some (.cells #[.int .i64 0, .int .i64 0, .string ⟨#[]⟩, .string ⟨#[]⟩, .string ⟨#[]⟩, .int .i64 0] 32 (0, 0))) := Lib.hid (by rw [← hW]; exact heap_alloc_new w _)
  clear hW
  obtain ⟨c0, c1, c2, c3, c4, c5, c6, c7, cf⟩ := (H.out.gr G1.out).cells
  go_quiet (fail)
  clear c0 c1 c2 c3 c4 c5 c6 c7 cf
  rw [← hr]
  clear hr
  go_wp2_with fail
  go_loopw [4] (fun sc wr => ∃ k : Nat, sc = .int .i64 (k : Int) ∧ k ≤ r.size ∧ Gr W1 wr ∧ Hid (0 = signGo r.data.toList k)) (fun sc _ => nat0 sc)
  case atStart => exact ⟨min 3 r.size, by simp; omega, by omega, (Gr.refl _).drewN _, HR⟩
  case round =>
    obtain ⟨k, rfl, hk, hg, hR⟩ := hrel
    clear HR
    have Hg := Lib.hid hg
    clear hg
    cases k with
    | succ k =>
      have hkb : (k : Int) ≤ 9223372036854775807 := by have := Hrs.out; omega
      have hkc : -9223372036854775808 ≤ (k : Int) := by omega
      have hk1 : (0 : Int) < ((k + 1 : Nat) : Int) := by omega
      have hk2 : ((k + 1 : Nat) : Int) ≤ (r.size : Int) := by omega
      obtain ⟨m, hm⟩ : ∃ m, m = k + 1 := ⟨_, rfl⟩
      have hI := Lib.hid (fun w => HI.out (r.extract 0 (k + 1)) w)
      rw [HE.out] at hI
      have hb : isSignB (r.data.toList.take (k + 1)) = false := by
        cases hb : isSignB (r.data.toList.take (k + 1)) with
        | false => rfl
        | true => have := hR.out; rw [signGo, if_pos hb] at this; cases this
      have hE : Hid (0 = signGo r.data.toList k) := Lib.hid (by have := hR.out; rw [signGo, hb] at this; simpa using this)
      have hks : ((k + 1 : Nat) : Int) - 1 = (k : Int) := by omega
      rw [hb] at hI
      rw [← hm] at hI hk1 hk2 hks ⊢
      have Hm := Lib.hid hm
      clear hb hR HI HE hm
      go_wp2_with fail
      refine (hI.out _).mono ?_
      rintro e w2 ⟨rfl, rfl⟩
      go_wp2_with fail
      go_roundw
      case rel => exact ⟨k, rfl, by omega, Hg.out, hE⟩
      case measure => have := Hm.out; simp only [nat0]; omega
    | zero =>
      have hr0b := Hr0.out
      have hr0' : (0 : Int) < (r.size : Int) := by omega
      have er := Her.out
      obtain ⟨c0, c1, c2, c3, c4, c5, c6, c7, cf⟩ := (H.out.gr (Gr.trans G1.out Hg.out)).cells
      have hr1b := Hr1.out
      have hr1' : (1 : Int) < (r.size : Int) := by omega
      have er1 := Her1.out
      have S1 := Lib.hid (H.out.gr (Gr.trans G1.out Hg.out))
      have K1' := Lib.hid ((Hg.out.block _ (Array.getElem?_eq_some_iff.1 K1.out).1).trans K1.out)
      have B1 := Lib.hid (But.of_gr (P := P) (Gr.trans G1.out Hg.out))
      subst ht
      have h4 : (((x.toNat : Int) == 36) = true) ∨ (((x.toNat : Int) == 36) = false ∧ ((x.toNat : Int) == 64) = true) := by
        rcases hc with rfl | rfl
        · exact .inl rfl
        · exact .inr ⟨rfl, rfl⟩
      have h5 : (((d.toNat : Int) == 36) = true) ∨ (((d.toNat : Int) == 36) = false ∧ ((d.toNat : Int) == 123) = true) := by
        rcases hdd with rfl | rfl
        · exact .inl rfl
        · exact .inr ⟨rfl, rfl⟩
      clear hc hdd hR K1 HI HE
      rcases h4 with h4 | ⟨h4, h4'⟩ <;> rcases h5 with h5 | ⟨h5, h5'⟩
      all_goals
        go_wp2_with fail
        refine (HT.out _ S1.out).mono ?_
        rintro e w2 ⟨rfl, hS2, hb2⟩
        have K2 := Lib.hid ((hb2.block _ (Array.getElem?_eq_some_iff.1 K1'.out).1 (by simp; omega)).trans K1'.out)
        have B2 := Lib.hid (B1.out.trans hb2)
        have S2 := Lib.hid hS2
        clear hS2 hb2 K1' S1 B1 c0 c1 c2 c3 c4 c5 c6 c7 cf
        go_wp2_with (refine wpList_store_tok rfl (.tmp 2) (.tmp 60) rfl (t := tok 3 (s.extract at_ (at_ + 1))) rfl rfl K2.out rfl ?_)
        intro W3 hb3 hk3
        have B3 := Lib.hid hb3
        have K3 := Lib.hid hk3
        clear hb3 hk3
        go_wp2_with fail
        refine bodyPost_ret (results_tok rfl rfl K3.out) rfl ?_
        exact ⟨rfl, S2.out.but B3.out (by omega) (by omega), B2.out.late (Nat.le_refl _) B3.out⟩
set_option maxRecDepth 100000 in
set_option maxHeartbeats 1000000 in
theorem sign_bad1 (h : Sc w P M s at_ en tm tv bv ov) (hs : s.size ≤ 140737488351232) (x : UInt8) (hx : s.data.toList[at_]? = some x) (hn : signN (s.data.toList.drop at_) = 0) (hc : tm = false ∨ (x ≠ 36 ∧ x ≠ 64) ∨ at_ + 1 = s.size) :
    Calls Tryd.prog 46 #[.pointer (some ⟨P, 0, none⟩)] w fun e w' => Bad s e ∧ But P w w' := by
  have H := Lib.hid h
  have hL : at_ < s.data.toList.length := (List.getElem?_eq_some_iff.1 hx).1
  have hat : at_ < s.size := by rw [sizeL] at hL; exact hL
  have HI := Lib.hid isSign_p
  obtain ⟨r, hr⟩ : ∃ r, r = s.extract at_ s.size := ⟨_, rfl⟩
  have hrs : r.size = s.size - at_ := by rw [hr]; simp [ByteArray.size_extract]
  have hrl : r.data.toList = s.data.toList.drop at_ := by rw [hr, dropE]
  have HE : Hid (∀ k : Nat, (r.extract 0 k).data.toList = r.data.toList.take k) := Lib.hid (fun k => by rw [extractE]; simp)
  have hmin : signN (s.data.toList.drop at_) = signGo r.data.toList (min 3 r.size) := by rw [signN, ← hrl, sizeL]
  rw [hmin] at hn
  have HR : Hid (0 = signGo r.data.toList (min 3 r.size)) := Lib.hid hn.symm
  have hr0 : 0 < r.size := by omega
  have hr0' : (0 : Int) < (r.size : Int) := by omega
  have er : r[0] = x := by
    have hrL : 0 < r.data.toList.length := by rw [sizeL]; exact hr0
    rw [byteE r 0 hr0 hrL]
    have : r.data.toList[0]? = some x := by rw [hrl, List.getElem?_drop]; exact hx
    exact (List.getElem?_eq_some_iff.1 this).2

  have b0 : (at_ : Int) ≤ (s.size : Int) := by omega
  have hP : P < w.heap.size := h.lt.1
  have hM : M.blk < w.heap.size := h.lt.2
  have Hr := Lib.hid hr
  have Hrs := Lib.hid hrs
  have Hat := Lib.hid hat
  have Hr0 := Lib.hid hr0
  have Her := Lib.hid er
  clear h hn hmin hrl hrs hx er
  go_enter Tryd.func46, Tryd.ntmps46
  go_wp2_with fail
  generalize hW : w.alloc (.cells #[.int .i64 0, .int .i64 0, .string ⟨#[]⟩, .string ⟨#[]⟩, .string ⟨#[]⟩, .int .i64 0] 32) = W1
  have G1 : Hid (Gr w W1) := Lib.hid (by rw [← hW]; exact (Gr.refl w).alloc _)
  have K1 : Hid (W1.heap[w.heap.size]? = some (.cells #[.int .i64 0, .int .i64 0, .string ⟨#[]⟩, .string ⟨#[]⟩, .string ⟨#[]⟩, .int .i64 0] 32 (0, 0))) := Lib.hid (by rw [← hW]; exact heap_alloc_new w _)
  clear hW
  obtain ⟨c0, c1, c2, c3, c4, c5, c6, c7, cf⟩ := (H.out.gr G1.out).cells
  go_quiet (fail)
  clear c0 c1 c2 c3 c4 c5 c6 c7 cf
  rw [← hr]
  clear hr
  go_wp2_with fail
  go_loopw [4] (fun sc wr => ∃ k : Nat, sc = .int .i64 (k : Int) ∧ k ≤ r.size ∧ Gr W1 wr ∧ Hid (0 = signGo r.data.toList k)) (fun sc _ => nat0 sc)
  case atStart => exact ⟨min 3 r.size, by simp; omega, by omega, (Gr.refl _).drewN _, HR⟩
  case round =>
    obtain ⟨k, rfl, hk, hg, hR⟩ := hrel
    clear HR
    have Hg := Lib.hid hg
    clear hg
    cases k with
    | succ k =>
      have hkb : (k : Int) ≤ 9223372036854775807 := by have := Hrs.out; omega
      have hkc : -9223372036854775808 ≤ (k : Int) := by omega
      have hk1 : (0 : Int) < ((k + 1 : Nat) : Int) := by omega
      have hk2 : ((k + 1 : Nat) : Int) ≤ (r.size : Int) := by omega
      obtain ⟨m, hm⟩ : ∃ m, m = k + 1 := ⟨_, rfl⟩
      have hI := Lib.hid (fun w => HI.out (r.extract 0 (k + 1)) w)
      rw [HE.out] at hI
      have hb : isSignB (r.data.toList.take (k + 1)) = false := by
        cases hb : isSignB (r.data.toList.take (k + 1)) with
        | false => rfl
        | true => have := hR.out; rw [signGo, if_pos hb] at this; cases this
      have hE : Hid (0 = signGo r.data.toList k) := Lib.hid (by have := hR.out; rw [signGo, hb] at this; simpa using this)
      have hks : ((k + 1 : Nat) : Int) - 1 = (k : Int) := by omega
      rw [hb] at hI
      rw [← hm] at hI hk1 hk2 hks ⊢
      have Hm := Lib.hid hm
      clear hb hR HI HE hm
      go_wp2_with fail
      refine (hI.out _).mono ?_
      rintro e w2 ⟨rfl, rfl⟩
      go_wp2_with fail
      go_roundw
      case rel => exact ⟨k, rfl, by omega, Hg.out, hE⟩
      case measure => have := Hm.out; simp only [nat0]; omega
    | zero =>
      have hr0b := Hr0.out
      have hr0' : (0 : Int) < (r.size : Int) := by omega
      have er := Her.out
      obtain ⟨c0, c1, c2, c3, c4, c5, c6, c7, cf⟩ := (H.out.gr (Gr.trans G1.out Hg.out)).cells
      have B1 := Lib.hid (But.of_gr (P := P) (Gr.trans G1.out Hg.out))
      have h4 : tm = false ∨ (tm = true ∧ ((x.toNat : Int) == 36) = false ∧ ((x.toNat : Int) == 64) = false) ∨ (tm = true ∧ decide (1 < r.size) = false ∧ decide ((1 : Int) < (r.size : Int)) = false ∧ (((x.toNat : Int) == 36) = true ∨ (((x.toNat : Int) == 36) = false ∧ ((x.toNat : Int) == 64) = true))) := by
        cases tm with
        | false => exact .inl rfl
        | true =>
          by_cases h36 : x = 36 ∨ x = 64
          · rcases hc with hc | hc | hc
            · cases hc
            · rcases h36 with h | h
              · exact absurd h hc.1
              · exact absurd h hc.2
            · have := Hrs.out
              refine .inr (.inr ⟨rfl, by simp; omega, by simp; omega, ?_⟩)
              rcases h36 with rfl | rfl
              · exact .inl rfl
              · exact .inr ⟨rfl, rfl⟩
          · exact .inr (.inl ⟨rfl, u8_ne (k := 36) (fun e => h36 (.inl e)), u8_ne (k := 64) (fun e => h36 (.inr e))⟩)
      clear hc hR K1 HI HE
      rcases h4 with rfl | ⟨rfl, h5, h6⟩ | ⟨rfl, h5, h5', h6 | ⟨h6, h7⟩⟩
      all_goals
        go_wp2_with fail
        exact ⟨rfl, ⟨at_, Hat.out, rfl⟩, B1.out⟩
set_option maxRecDepth 100000 in
set_option maxHeartbeats 1000000 in
theorem sign_bad2 (h : Sc w P M s at_ en tm tv bv ov) (hs : s.size ≤ 140737488351232) (x : UInt8) (hx : s.data.toList[at_]? = some x) (hn : signN (s.data.toList.drop at_) = 0) (d : UInt8) (hd : s.data.toList[at_ + 1]? = some d) (hc : d ≠ 36 ∧ d ≠ 123) :
    Calls Tryd.prog 46 #[.pointer (some ⟨P, 0, none⟩)] w fun e w' => Bad s e ∧ But P w w' := by
  have H := Lib.hid h
  have hL : at_ < s.data.toList.length := (List.getElem?_eq_some_iff.1 hx).1
  have hat : at_ < s.size := by rw [sizeL] at hL; exact hL
  have HI := Lib.hid isSign_p
  obtain ⟨r, hr⟩ : ∃ r, r = s.extract at_ s.size := ⟨_, rfl⟩
  have hrs : r.size = s.size - at_ := by rw [hr]; simp [ByteArray.size_extract]
  have hrl : r.data.toList = s.data.toList.drop at_ := by rw [hr, dropE]
  have HE : Hid (∀ k : Nat, (r.extract 0 k).data.toList = r.data.toList.take k) := Lib.hid (fun k => by rw [extractE]; simp)
  have hmin : signN (s.data.toList.drop at_) = signGo r.data.toList (min 3 r.size) := by rw [signN, ← hrl, sizeL]
  rw [hmin] at hn
  have HR : Hid (0 = signGo r.data.toList (min 3 r.size)) := Lib.hid hn.symm
  have hr0 : 0 < r.size := by omega
  have hr0' : (0 : Int) < (r.size : Int) := by omega
  have er : r[0] = x := by
    have hrL : 0 < r.data.toList.length := by rw [sizeL]; exact hr0
    rw [byteE r 0 hr0 hrL]
    have : r.data.toList[0]? = some x := by rw [hrl, List.getElem?_drop]; exact hx
    exact (List.getElem?_eq_some_iff.1 this).2
  have hd1 : at_ + 1 < s.size := by have := (List.getElem?_eq_some_iff.1 hd).1; rw [sizeL] at this; exact this
  have hr1 : 1 < r.size := by omega
  have er1 : r[1] = d := by
    have hrL : 1 < r.data.toList.length := by rw [sizeL]; exact hr1
    rw [byteE r 1 hr1 hrL]
    have : r.data.toList[1]? = some d := by rw [hrl, List.getElem?_drop]; exact hd
    exact (List.getElem?_eq_some_iff.1 this).2
  have Hr1 := Lib.hid hr1
  have Her1 := Lib.hid er1
  clear er1 hd hd1

  have b0 : (at_ : Int) ≤ (s.size : Int) := by omega
  have hP : P < w.heap.size := h.lt.1
  have hM : M.blk < w.heap.size := h.lt.2
  have Hr := Lib.hid hr
  have Hrs := Lib.hid hrs
  have Hat := Lib.hid hat
  have Hr0 := Lib.hid hr0
  have Her := Lib.hid er
  clear h hn hmin hrl hrs hx er
  go_enter Tryd.func46, Tryd.ntmps46
  go_wp2_with fail
  generalize hW : w.alloc (.cells #[.int .i64 0, .int .i64 0, .string ⟨#[]⟩, .string ⟨#[]⟩, .string ⟨#[]⟩, .int .i64 0] 32) = W1
  have G1 : Hid (Gr w W1) := Lib.hid (by rw [← hW]; exact (Gr.refl w).alloc _)
  have K1 : Hid (W1.heap[w.heap.size]? = some (.cells #[.int .i64 0, .int .i64 0, .string ⟨#[]⟩, .string ⟨#[]⟩, .string ⟨#[]⟩, .int .i64 0] 32 (0, 0))) := Lib.hid (by rw [← hW]; exact heap_alloc_new w _)
  clear hW
  obtain ⟨c0, c1, c2, c3, c4, c5, c6, c7, cf⟩ := (H.out.gr G1.out).cells
  go_quiet (fail)
  clear c0 c1 c2 c3 c4 c5 c6 c7 cf
  rw [← hr]
  clear hr
  go_wp2_with fail
  go_loopw [4] (fun sc wr => ∃ k : Nat, sc = .int .i64 (k : Int) ∧ k ≤ r.size ∧ Gr W1 wr ∧ Hid (0 = signGo r.data.toList k)) (fun sc _ => nat0 sc)
  case atStart => exact ⟨min 3 r.size, by simp; omega, by omega, (Gr.refl _).drewN _, HR⟩
  case round =>
    obtain ⟨k, rfl, hk, hg, hR⟩ := hrel
    clear HR
    have Hg := Lib.hid hg
    clear hg
    cases k with
    | succ k =>
      have hkb : (k : Int) ≤ 9223372036854775807 := by have := Hrs.out; omega
      have hkc : -9223372036854775808 ≤ (k : Int) := by omega
      have hk1 : (0 : Int) < ((k + 1 : Nat) : Int) := by omega
      have hk2 : ((k + 1 : Nat) : Int) ≤ (r.size : Int) := by omega
      obtain ⟨m, hm⟩ : ∃ m, m = k + 1 := ⟨_, rfl⟩
      have hI := Lib.hid (fun w => HI.out (r.extract 0 (k + 1)) w)
      rw [HE.out] at hI
      have hb : isSignB (r.data.toList.take (k + 1)) = false := by
        cases hb : isSignB (r.data.toList.take (k + 1)) with
        | false => rfl
        | true => have := hR.out; rw [signGo, if_pos hb] at this; cases this
      have hE : Hid (0 = signGo r.data.toList k) := Lib.hid (by have := hR.out; rw [signGo, hb] at this; simpa using this)
      have hks : ((k + 1 : Nat) : Int) - 1 = (k : Int) := by omega
      rw [hb] at hI
      rw [← hm] at hI hk1 hk2 hks ⊢
      have Hm := Lib.hid hm
      clear hb hR HI HE hm
      go_wp2_with fail
      refine (hI.out _).mono ?_
      rintro e w2 ⟨rfl, rfl⟩
      go_wp2_with fail
      go_roundw
      case rel => exact ⟨k, rfl, by omega, Hg.out, hE⟩
      case measure => have := Hm.out; simp only [nat0]; omega
    | zero =>
      have hr0b := Hr0.out
      have hr0' : (0 : Int) < (r.size : Int) := by omega
      have er := Her.out
      obtain ⟨c0, c1, c2, c3, c4, c5, c6, c7, cf⟩ := (H.out.gr (Gr.trans G1.out Hg.out)).cells
      have hr1b := Hr1.out
      have hr1' : (1 : Int) < (r.size : Int) := by omega
      have er1 := Her1.out
      have B1 := Lib.hid (But.of_gr (P := P) (Gr.trans G1.out Hg.out))
      have d1 : ((d.toNat : Int) == 36) = false := u8_ne (k := 36) hc.1
      have d2 : ((d.toNat : Int) == 123) = false := u8_ne (k := 123) hc.2
      have h4 : tm = false ∨ (tm = true ∧ ((x.toNat : Int) == 36) = false ∧ ((x.toNat : Int) == 64) = false) ∨ (tm = true ∧ (((x.toNat : Int) == 36) = true ∨ (((x.toNat : Int) == 36) = false ∧ ((x.toNat : Int) == 64) = true))) := by
        cases tm with
        | false => exact .inl rfl
        | true =>
          by_cases h36 : x = 36
          · subst h36; exact .inr (.inr ⟨rfl, .inl rfl⟩)
          · by_cases h64 : x = 64
            · subst h64; exact .inr (.inr ⟨rfl, .inr ⟨rfl, rfl⟩⟩)
            · exact .inr (.inl ⟨rfl, u8_ne (k := 36) h36, u8_ne (k := 64) h64⟩)
      clear hc hR K1 HI HE
      rcases h4 with rfl | ⟨rfl, h5, h6⟩ | ⟨rfl, h6 | ⟨h6, h7⟩⟩
      all_goals
        go_wp2_with fail
        exact ⟨rfl, ⟨at_, Hat.out, rfl⟩, B1.out⟩
end Go.Proofs.YthmopindibdhnaaDoor.G
