/- LSgn LVar LBld LQk LPart -/
import Derived.Test.YthmopindibdhnaaDoorM02
namespace Go.Proofs.YthmopindibdhnaaDoor
open Go.RowKit Go.Shelf
def signGo (l : List UInt8) : Nat → Nat
  | 0 => 0
  | n + 1 => if isSignB (l.take (n + 1)) = true then n + 1 else signGo l n
/-- how many bytes at the begin of a text are a sign, the longest one -/
def signN (l : List UInt8) : Nat := signGo l (min 3 l.length)
variable {w : World} {P M : Nat} {s : ByteArray} {at_ en : Nat} {tm : Bool} {tv bv ov : Value}
theorem signGo_le (l : List UInt8) : ∀ n, signGo l n ≤ n
  | 0 => Nat.le_refl _
  | n + 1 => by
    rw [signGo]
    split
    · exact Nat.le_refl _
    · exact Nat.le_succ_of_le (signGo_le l n)
def nat0 : Value → Nat
  | .int _ c => c.toNat
  | _ => 0
set_option maxRecDepth 100000 in
set_option maxHeartbeats 1000000 in
theorem sign_m (h : Sc w P M s at_ en tm tv bv ov) (hat : at_ ≤ s.size) (hs : s.size ≤ 140737488351232) (n : Nat) (hn : signN (s.data.toList.drop at_) = n) (h0 : 0 < n) :
    Calls Tryd.prog 46 #[.pointer (some ⟨P, 0, none⟩)] w fun e w' => e = .returned (tok 3 (s.extract at_ (at_ + n))).val ∧ Sc w' P M s (at_ + n) en tm tv bv ov ∧ But P w w' := by
  have H := Lib.hid h
  have HI := Lib.hid isSign_p
  obtain ⟨r, hr⟩ : ∃ r, r = s.extract at_ s.size := ⟨_, rfl⟩
  have hrs : r.size = s.size - at_ := by rw [hr]; simp [ByteArray.size_extract]
  have hrl : r.data.toList = s.data.toList.drop at_ := by rw [hr, dropE]
  have HE : Hid (∀ k : Nat, (r.extract 0 k).data.toList = r.data.toList.take k) := Lib.hid (fun k => by rw [extractE]; simp)
  have hmin : signN (s.data.toList.drop at_) = signGo r.data.toList (min 3 r.size) := by rw [signN, ← hrl, sizeL]
  rw [hmin] at hn
  have HR : Hid (n = signGo r.data.toList (min 3 r.size)) := Lib.hid hn.symm
  have hnr : n ≤ r.size := by have := signGo_le r.data.toList (min 3 r.size); omega
  have HT := Lib.hid (fun (W : World) (hS : Sc W P M s at_ en tm tv bv ov) => take_p hS n (by omega) hs)
  have b0 : (at_ : Int) ≤ (s.size : Int) := by omega
  have hP : P < w.heap.size := h.lt.1
  have hM : M < w.heap.size := h.lt.2
  have Hr := Lib.hid hr
  have Hrs := Lib.hid hrs
  clear h hn hmin hrl hrs
  go_enter Tryd.func46, Tryd.ntmps46
  go_wp2_with fail
  generalize hW : w.alloc (.cells #[.int .i64 0, .int .i64 0, .string ⟨#[]⟩, .string ⟨#[]⟩, .string ⟨#[]⟩, .int .i64 0] 32) = W1
  have G1 : Hid (Gr w W1) := Lib.hid (by rw [← hW]; exact (Gr.refl w).alloc _)
  have K1 : Hid (W1.heap[w.heap.size]? = some (.cells #[.int .i64 0, .int .i64 0, .string ⟨#[]⟩, .string ⟨#[]⟩, .string ⟨#[]⟩, .int .i64 0] 32 (0, 0))) := Lib.hid (by rw [← hW]; exact heap_alloc_new w _)
  clear hW
  obtain ⟨c0, c1, c2, c3, c4, c5, c6, c7, cf⟩ := (H.out.gr G1.out).cells
  go_quiet (fail)
  clear c0 c1 c2 c3 c4 c5 c6 c7 cf
  rw [← hr]
  clear hr
  go_wp2_with fail
  go_loopw [4] (fun sc wr => ∃ k : Nat, sc = .int .i64 (k : Int) ∧ k ≤ r.size ∧ Gr W1 wr ∧ Hid (n = signGo r.data.toList k)) (fun sc _ => nat0 sc)
  case atStart => exact ⟨min 3 r.size, by simp; omega, by omega, (Gr.refl _).drewN _, HR⟩
  case round =>
    obtain ⟨k, rfl, hk, hg, hR⟩ := hrel
    clear HR
    have Hg := Lib.hid hg
    clear hg
    cases k with
    | zero => exfalso; have := hR.out; rw [signGo] at this; omega
    | succ k =>
      have hkb : (k : Int) ≤ 9223372036854775807 := by have := Hrs.out; omega
      have hkc : -9223372036854775808 ≤ (k : Int) := by omega
      have hk1 : (0 : Int) < ((k + 1 : Nat) : Int) := by omega
      have hk2 : ((k + 1 : Nat) : Int) ≤ (r.size : Int) := by omega
      obtain ⟨m, hm⟩ : ∃ m, m = k + 1 := ⟨_, rfl⟩
      have hI := Lib.hid (fun w => HI.out (r.extract 0 (k + 1)) w)
      rw [HE.out] at hI
      by_cases hb : isSignB (r.data.toList.take (k + 1)) = true
      · have hnk : n = k + 1 := by have := hR.out; rw [signGo, if_pos hb] at this; exact this
        rw [hb] at hI
        rw [← hm] at hI hk1 hk2 hnk ⊢
        have Hnk := Lib.hid hnk
        clear hb hR HI HE hnk hm
        go_wp2_with fail
        refine (hI.out _).mono ?_
        rintro e w2 ⟨rfl, rfl⟩
        go_wp2_with fail
        rw [← Hnk.out]
        refine (HT.out _ ((H.out.gr G1.out).gr Hg.out)).mono ?_
        rintro e w2 ⟨rfl, hS2, hb2⟩
        have K2 := Lib.hid ((hb2.block _ (Nat.lt_of_lt_of_le (Array.getElem?_eq_some_iff.1 K1.out).1 (Gr.size Hg.out)) (by simp; omega)).trans ((Hg.out.block _ (Array.getElem?_eq_some_iff.1 K1.out).1).trans K1.out))
        have B2 := Lib.hid ((But.of_gr (G1.out.trans Hg.out)).trans hb2)
        have S2 := Lib.hid hS2
        clear hS2 hb2 HT
        go_wp2_with (refine wpList_store_tok rfl (.tmp 2) (.tmp 28) rfl (t := tok 3 (s.extract at_ (at_ + n))) rfl rfl K2.out rfl ?_)
        intro W3 hb3 hk3
        have B3 := Lib.hid hb3
        have K3 := Lib.hid hk3
        clear hb3 hk3
        go_wp2_with fail
        refine bodyPost_ret (results_tok rfl rfl K3.out) rfl ?_
        exact ⟨rfl, S2.out.but B3.out (by omega) (by omega), B2.out.late (Nat.le_refl _) B3.out⟩
      · have hR2 : Hid (n = signGo r.data.toList k) := Lib.hid (by have := hR.out; rw [signGo, if_neg hb] at this; exact this)
        have hks : ((k + 1 : Nat) : Int) - 1 = (k : Int) := by omega
        rw [show isSignB (r.data.toList.take (k + 1)) = false by simpa using hb] at hI
        rw [← hm] at hI hk1 hk2 hks ⊢
        have Hm := Lib.hid hm
        clear hb hR HI HE hm
        go_wp2_with fail
        refine (hI.out _).mono ?_
        rintro e w2 ⟨rfl, rfl⟩
        go_wp2_with fail
        go_roundw
        case rel => exact ⟨k, rfl, by omega, Hg.out, hR2⟩
        case measure => have := Hm.out; simp only [nat0]; omega
end Go.Proofs.YthmopindibdhnaaDoor
namespace Go.Proofs.YthmopindibdhnaaDoor
open Go.RowKit Go.Shelf
theorem idx_any (s : ByteArray) (x : Int) (w : World) : Calls Tryd.prog 37 #[.string s, .int .u8 x] w fun e w' => e = .returned (.int .i64 (Lib.indexByte s.data.toList x.toNat.toUInt8)) ∧ w = w' :=
  (Any.strings_IndexByte Tryd.lays137 s x w).mono fun _ _ ⟨he, h⟩ => ⟨he, h.symm⟩
theorem delim_p (x : Int) (w : World) : Calls Tryd.prog 64 #[.int .u8 x] w fun e w' => e = .returned (.bool (delimB x)) ∧ w = w' := by
  have HI := Lib.hid (fun w => idx_any ⟨#[40, 91, 123, 60, 47, 33, 124, 126, 39, 34]⟩ x w)
  rw [show (⟨#[40, 91, 123, 60, 47, 33, 124, 126, 39, 34]⟩ : ByteArray).data.toList = [40, 91, 123, 60, 47, 33, 124, 126, 39, 34] from rfl] at HI
  unfold delimB
  generalize Lib.indexByte [40, 91, 123, 60, 47, 33, 124, 126, 39, 34] x.toNat.toUInt8 = r at *
  go_enter Tryd.func64, Tryd.ntmps64
  go_wp2_with fail
  refine (HI.out _).mono ?_
  rintro e w1 ⟨rfl, rfl⟩
  go_wp2
  go_ret
  exact ⟨by first | rfl | simp, rfl⟩
theorem sigil_p (x : Int) (w : World) : Calls Tryd.prog 57 #[.int .u8 x] w fun e w' => e = .returned (.bool (sigilB x)) ∧ w = w' := by
  have HI := Lib.hid (fun w => idx_any ⟨#[36, 64, 37, 38]⟩ x w)
  rw [show (⟨#[36, 64, 37, 38]⟩ : ByteArray).data.toList = [36, 64, 37, 38] from rfl] at HI
  unfold sigilB
  generalize Lib.indexByte [36, 64, 37, 38] x.toNat.toUInt8 = r at *
  go_enter Tryd.func57, Tryd.ntmps57
  go_wp2_with fail
  refine (HI.out _).mono ?_
  rintro e w1 ⟨rfl, rfl⟩
  go_wp2
  go_ret
  exact ⟨by first | rfl | simp, rfl⟩
theorem cutNo (s p : ByteArray) (h : Lib.hasPrefix s.data.toList p.data.toList = false) (w : World) : Calls Tryd.prog 52 #[.string s, .string p] w fun e w' => e = .returned (.tuple #[.string ⟨(Lib.trimPrefix s.data.toList p.data.toList).toArray⟩, .bool false]) ∧ w = w' := by
  have g := Any.strings_CutPrefix Tryd.lays103 s p w
  change Calls Tryd.prog 52 _ _ _ at g
  rw [h] at g
  exact g.mono fun e w' ⟨he, hb⟩ => ⟨he, hb.symm⟩
variable {w : World} {P M : Nat} {s : ByteArray} {at_ en : Nat} {tm : Bool} {tv bv ov : Value}
/-- a token and whether there is one -/
theorem results_tokB {fn : Func} {p u : Tmp} (h : fn.results = #[.cell p 32, .tmp u]) {tmps : Array Value} {W : World} {g : Nat} {t : Tok} {b : Bool} (hp : tmps.getD p undef = .pointer (some ⟨g, 0, none⟩))
    (hg : W.heap[g]? = some (.cells t.cells.toArray 32 (0, 0))) (hu : tmps.getD u undef = .bool b) : (results fn tmps).run Tryd.prog W = .ok (.tuple #[t.val, .bool b]) W := by
  have hl := run_loadVar_row (P := Tryd.prog) W g 32 32 t.cells.toArray (0, 0) _ hg Tryd.underlying32 rfl (by rw [tokInfo]; rfl)
  rw [results_cell_tmp h, hp, hu]
  simp only [asAddr, Sem.run_pure, Result.andThen_ok, hl]
  rfl
def tok0 : Tok := ⟨0, 0, ⟨#[]⟩, ⟨#[]⟩, ⟨#[]⟩, 0⟩
set_option maxRecDepth 100000 in
set_option maxHeartbeats 1000000 in
theorem heredoc_no (h : Sc w P M s at_ en tm tv bv ov) (hat : at_ ≤ s.size) (hn : Lib.hasPrefix (s.data.toList.drop at_) [60, 60] = false) :
    Calls Tryd.prog 40 #[.pointer (some ⟨P, 0, none⟩)] w fun e w' => e = .returned (.tuple #[tok0.val, .bool false]) ∧ Sc w' P M s at_ en tm tv bv ov ∧ But P w w' := by
  have H := Lib.hid h
  have hcp := cutNo (s.extract at_ s.size) ⟨#[60, 60]⟩ (by rw [dropE]; exact hn)
  generalize (⟨(Lib.trimPrefix (s.extract at_ s.size).data.toList (⟨#[60, 60]⟩ : ByteArray).data.toList).toArray⟩ : ByteArray) = cut at hcp
  have HC := Lib.hid hcp
  have b0 : (at_ : Int) ≤ (s.size : Int) := by omega
  have hP : P < w.heap.size := h.lt.1
  have hM : M < w.heap.size := h.lt.2
  clear h hn hcp
  go_enter Tryd.func40, Tryd.ntmps40
  go_wp2_with fail
  generalize hW : w.alloc (.cells #[.int .i64 0, .int .i64 0, .string ⟨#[]⟩, .string ⟨#[]⟩, .string ⟨#[]⟩, .int .i64 0] 32) = W1
  have G1 : Hid (Gr w W1) := Lib.hid (by rw [← hW]; exact (Gr.refl w).alloc _)
  have K1 : Hid (W1.heap[w.heap.size]? = some (.cells #[.int .i64 0, .int .i64 0, .string ⟨#[]⟩, .string ⟨#[]⟩, .string ⟨#[]⟩, .int .i64 0] 32 (0, 0))) := Lib.hid (by rw [← hW]; exact heap_alloc_new w _)
  clear hW
  obtain ⟨c0, c1, c2, c3, c4, c5, c6, c7, cf⟩ := (H.out.gr G1.out).cells
  go_quiet ((go_at_call 52; exact quiet_at (HC.out _)))
  clear c0 c1 c2 c3 c4 c5 c6 c7 cf
  go_wp2_with (refine wpList_store_tok rfl (.tmp 2) (.tmp 24) rfl (t := tok0) rfl rfl K1.out rfl ?_)
  intro W3 hb3 hk3
  have B3 := Lib.hid hb3
  have K3 := Lib.hid hk3
  clear hb3 hk3
  go_wp2_with fail
  refine bodyPost_ret (results_tokB rfl rfl K3.out rfl) rfl ?_
  exact ⟨rfl, (H.out.gr (G1.out.drewN _)).but B3.out (by omega) (by omega), (But.of_gr (G1.out.drewN _)).late (Nat.le_refl _) B3.out⟩
set_option maxRecDepth 100000 in
set_option maxHeartbeats 1000000 in
theorem variable_no (h : Sc w P M s at_ en tm tv bv ov) (hat : at_ < s.size) (hs : s.size ≤ 140737488351232) (x : UInt8) (hx : s.data.toList[at_]? = some x) (hn : sigilB x.toNat = false) :
    Calls Tryd.prog 41 #[.pointer (some ⟨P, 0, none⟩)] w fun e w' => e = .returned (.tuple #[tok0.val, .bool false]) ∧ Sc w' P M s at_ en tm tv bv ov ∧ But P w w' := by
  have H := Lib.hid h
  have HS := Lib.hid (fun w => sigil_p x.toNat w)
  rw [hn] at HS
  have hL : at_ < s.data.toList.length := by rw [sizeL]; exact hat
  have en_ : s[at_] = x := by rw [byteE s at_ hat hL]; rw [List.getElem?_eq_getElem hL] at hx; exact Option.some.inj hx
  have b0 : (at_ : Int) < (s.size : Int) := by omega
  have b1 : (at_ : Int) + 1 ≤ 9223372036854775807 := by omega
  have b2 : -9223372036854775808 ≤ (at_ : Int) + 1 := by omega
  have b3 : (at_ : Int) + 1 ≤ (s.size : Int) := by omega
  have hP : P < w.heap.size := h.lt.1
  have hM : M < w.heap.size := h.lt.2
  clear h hn hx
  go_enter Tryd.func41, Tryd.ntmps41
  go_wp2_with fail
  generalize hW : w.alloc (.cells #[.int .i64 0, .int .i64 0, .string ⟨#[]⟩, .string ⟨#[]⟩, .string ⟨#[]⟩, .int .i64 0] 32) = W1
  have G1 : Hid (Gr w W1) := Lib.hid (by rw [← hW]; exact (Gr.refl w).alloc _)
  have K1 : Hid (W1.heap[w.heap.size]? = some (.cells #[.int .i64 0, .int .i64 0, .string ⟨#[]⟩, .string ⟨#[]⟩, .string ⟨#[]⟩, .int .i64 0] 32 (0, 0))) := Lib.hid (by rw [← hW]; exact heap_alloc_new w _)
  clear hW
  obtain ⟨c0, c1, c2, c3, c4, c5, c6, c7, cf⟩ := (H.out.gr G1.out).cells
  go_quiet (fail)
  clear c0 c1 c2 c3 c4 c5 c6 c7 cf
  go_wp2_with fail
  refine (HS.out _).mono ?_
  rintro e w2 ⟨rfl, rfl⟩
  go_wp2_with (refine wpList_store_tok rfl (.tmp 2) (.tmp 33) rfl (t := tok0) rfl rfl K1.out rfl ?_)
  intro W3 hb3 hk3
  have B3 := Lib.hid hb3
  have K3 := Lib.hid hk3
  clear hb3 hk3
  go_wp2_with fail
  refine bodyPost_ret (results_tokB rfl rfl K3.out rfl) rfl ?_
  exact ⟨rfl, (H.out.gr (G1.out.drewN _)).but B3.out (by omega) (by omega), (But.of_gr (G1.out.drewN _)).late (Nat.le_refl _) B3.out⟩
set_option maxRecDepth 100000 in
set_option maxHeartbeats 1000000 in
theorem variable_yes (h : Sc w P M s at_ en tm tv bv ov) (hat : at_ + 1 < s.size) (hs : s.size ≤ 140737488351232) (x : UInt8) (hx : s.data.toList[at_]? = some x) (hn : sigilB x.toNat = true) (n : Nat) (hw : wordN (s.data.toList.drop (at_ + 1)) = n) (h0 : 0 < n) (h12 : n ≤ 12) :
    Calls Tryd.prog 41 #[.pointer (some ⟨P, 0, none⟩)] w fun e w' => e = .returned (.tuple #[(tok 2 (s.extract at_ (at_ + (1 + n)))).val, .bool true]) ∧ Sc w' P M s (at_ + (1 + n)) en tm tv bv ov ∧ But P w w' := by
  have H := Lib.hid h
  have HS := Lib.hid (fun w => sigil_p x.toNat w)
  rw [hn] at HS
  have hL : at_ < s.data.toList.length := by rw [sizeL]; omega
  have hat0 : at_ < s.size := by omega
  have en_ : s[at_] = x := by rw [byteE s at_ hat0 hL]; rw [List.getElem?_eq_getElem hL] at hx; exact Option.some.inj hx
  have hln := wordN_le (s.data.toList.drop (at_ + 1))
  rw [hw, List.length_drop, sizeL] at hln
  have HW := Lib.hid (fun w => word_p (s.extract (at_ + 1) s.size) (by simp [ByteArray.size_extract]; omega) w)
  rw [dropE, hw] at HW
  have HT := Lib.hid (fun (W : World) (hS : Sc W P M s at_ en tm tv bv ov) => take_p hS (1 + n) (by omega) hs)
  have hne : ((s.extract (at_ + 1) s.size).toList == []) = false := by
    rw [ByteArray.toList_eq, dropE]; simp; exact hat
  have b0 : (at_ : Int) < (s.size : Int) := by omega
  have b1 : (at_ : Int) + 1 ≤ 9223372036854775807 := by omega
  have b2 : -9223372036854775808 ≤ (at_ : Int) + 1 := by omega
  have b3 : (at_ : Int) + 1 ≤ (s.size : Int) := by omega
  have n0 : ((n : Int) == 0) = false := by simp; omega
  have n1 : ¬ (n : Int) > 12 := by omega
  have n2 : (1 : Int) + (n : Int) ≤ 9223372036854775807 := by omega
  have n3 : -9223372036854775808 ≤ (1 : Int) + (n : Int) := by omega
  obtain ⟨m, hm⟩ : ∃ m, m = 1 + n := ⟨_, rfl⟩
  have hw1 : IntKind.i64.wrap ((1 : Int) + (n : Int)) = (m : Int) := by rw [IntKind.wrap_i64]; omega
  have hw2 : wrap64 ((1 : Int) + (n : Int)) = (m : Int) := by simp only [wrap64]; omega
  rw [← hm] at HT ⊢
  have hP : P < w.heap.size := h.lt.1
  have hM : M < w.heap.size := h.lt.2
  have Hat := Lib.hid hat
  clear h hn hx hw hln h0 hm n2 n3 hat
  obtain ⟨r, hr⟩ : ∃ r, r = s.extract (at_ + 1) s.size := ⟨_, rfl⟩
  rw [← hr] at HW hne
  have Hr := Lib.hid hr
  clear hr
  go_enter Tryd.func41, Tryd.ntmps41
  go_wp2_with fail
  generalize hW : w.alloc (.cells #[.int .i64 0, .int .i64 0, .string ⟨#[]⟩, .string ⟨#[]⟩, .string ⟨#[]⟩, .int .i64 0] 32) = W1
  have G1 : Hid (Gr w W1) := Lib.hid (by rw [← hW]; exact (Gr.refl w).alloc _)
  have K1 : Hid (W1.heap[w.heap.size]? = some (.cells #[.int .i64 0, .int .i64 0, .string ⟨#[]⟩, .string ⟨#[]⟩, .string ⟨#[]⟩, .int .i64 0] 32 (0, 0))) := Lib.hid (by rw [← hW]; exact heap_alloc_new w _)
  clear hW
  obtain ⟨c0, c1, c2, c3, c4, c5, c6, c7, cf⟩ := (H.out.gr G1.out).cells
  go_quiet (fail)
  clear c0 c1 c2 c3 c4 c5 c6 c7 cf
  rw [← Hr.out]
  go_wp2_with fail
  refine (HS.out _).mono ?_
  rintro e w2 ⟨rfl, rfl⟩
  go_wp2_with fail
  refine (HW.out _).mono ?_
  rintro e w2 ⟨rfl, rfl⟩
  clear b1 b2 b3
  go_wp2_with fail
  refine (HT.out _ (H.out.gr (G1.out.drewN _))).mono ?_
  rintro e w2 ⟨rfl, hS2, hb2⟩
  have K2 := Lib.hid ((hb2.block _ (Array.getElem?_eq_some_iff.1 K1.out).1 (by simp; omega)).trans K1.out)
  have B2 := Lib.hid ((But.of_gr (G1.out.drewN _)).trans hb2)
  have S2 := Lib.hid hS2
  clear hS2 hb2 K1 HT HW
  go_wp2_with (refine wpList_store_tok rfl (.tmp 2) (.tmp 71) rfl (t := tok 2 (s.extract at_ (at_ + m))) rfl rfl K2.out rfl ?_)
  intro W3 hb3 hk3
  have B3 := Lib.hid hb3
  have K3 := Lib.hid hk3
  clear hb3 hk3
  go_wp2_with fail
  refine bodyPost_ret (results_tokB rfl rfl K3.out rfl) rfl ?_
  exact ⟨rfl, S2.out.but B3.out (by omega) (by omega), B2.out.late (Nat.le_refl _) B3.out⟩
end Go.Proofs.YthmopindibdhnaaDoor
namespace Go.Proofs.YthmopindibdhnaaDoor
open Go.RowKit Go.Shelf
def hl167_ren : Go.Shelf.Ren := ⟨fun | 167 => 17 | 240 => 24 | 276 => 36 | n => n, fun | 0 => 0 | 4 => 4 | 5 => 5 | 9 => 9 | 20 => 20 | 37 => 46 | 70 => 45 | 72 => 48 | 75 => 50 | 80 => 57 | 164 => 69 | n => n, fun | n => n⟩
theorem hl167 : Go.Proofs.Lays.n167 Tryd.prog hl167_ren := {
  mixed := by kernel_rfl
  f167 := Tryd.func17.trans (congrArg some (by kernel_rfl))
  f240 := Tryd.func24.trans (congrArg some (by kernel_rfl))
  f276 := Tryd.func36.trans (congrArg some (by kernel_rfl))
  t0 := Tryd.underlying0
  a0 := Tryd.isAgg0
  z0 := Tryd.sizeOf0
  v0 := Tryd.zeroValue0
  t4 := Tryd.underlying4
  a4 := Tryd.isAgg4
  z4 := Tryd.sizeOf4
  v4 := Tryd.zeroValue4
  t5 := Tryd.underlying5
  a5 := Tryd.isAgg5
  z5 := Tryd.sizeOf5
  v5 := Tryd.zeroValue5
  t9 := Tryd.underlying9
  a9 := Tryd.isAgg9
  z9 := Tryd.sizeOf9
  v9 := Tryd.zeroValue9
  t20 := Tryd.underlying20
  a20 := Tryd.isAgg20
  z20 := Tryd.sizeOf20
  v20 := Tryd.zeroValue20
  t37 := Tryd.underlying46
  a37 := Tryd.isAgg46
  z37 := Tryd.sizeOf46
  v37 := Tryd.zeroValue46
  t70 := Tryd.underlying45
  a70 := Tryd.isAgg45
  z70 := Tryd.sizeOf45
  v70 := Tryd.zeroValue45
  t72 := Tryd.underlying48
  a72 := Tryd.isAgg48
  z72 := Tryd.sizeOf48
  v72 := Tryd.zeroValue48
  t75 := Tryd.underlying50
  a75 := Tryd.isAgg50
  z75 := Tryd.sizeOf50
  v75 := Tryd.zeroValue50
  t164 := Tryd.underlying69
  a164 := Tryd.isAgg69
  z164 := Tryd.sizeOf69
  v164 := Tryd.zeroValue69 }
theorem extra167 : Builder.Extra Tryd.prog hl167_ren where
  sizeBuilder := by kernel_rfl
  liesBuilder := by kernel_rfl
  t5 := Tryd.underlying5
  a5 := Tryd.isAgg5
  z5 := Tryd.sizeOf5
  v5 := Tryd.zeroValue5
  infoByte := by kernel_rfl
  cellsByte := by kernel_rfl
  sizeByte := by kernel_rfl
  neB5 := by decide
theorem bld_byte {B : Nat} {l : List UInt8} (c : UInt8) {w : World} (h : Bld B l w) (hl : l.length + 1 ≤ 140737488355328) (hB : B ≤ w.heap.size) :
    Calls Tryd.prog 17 #[.pointer (some ⟨B, 0, none⟩), .int .u8 (c.toNat : Int)] w fun e w' => e = .returned .nilIface ∧ (Bld B (l ++ [c]) w' ∧ Below B w w' ∧ Oth B w w') :=
  (Any.Builder_WriteByte_k hl167 extra167 B B (Lib.byteCells l) (c.toNat : Int) w h (by rw [Lib.byteCells_length]; exact hl) hB).mono fun _ _ ⟨he, h1, h2, h3⟩ => ⟨he, by
    unfold Bld; rw [Lib.byteCells_append]; exact Or.inr h1, h2, h3⟩
theorem ownsRowF_same {w w' : World} {B : Nat} {e : TypeId} {size : Nat} {v : Value} {n : Nat} {xs : List Value} (h : w.ownsRowF B e size v n xs) (hb : ∀ k, B ≤ k → k < w.heap.size → w'.heap[k]? = w.heap[k]?) : w'.ownsRowF B e size v n xs := by
  obtain ⟨h1, h2⟩ := h
  refine ⟨h1, ?_⟩
  rcases h2 with h2 | ⟨g, h3⟩
  · exact .inl h2
  · obtain ⟨cap, cur, fz, e1, e2, e3, e4⟩ := h3
    exact .inr ⟨g, cap, cur, fz, e1, e2, by rw [hb g e2 (Array.getElem?_eq_some_iff.1 e3).1]; exact e3, e4⟩
theorem Bld.but {B P : Nat} {l : List UInt8} {w w' : World} (h : Bld B l w) (hP : P < B) (k : But P w w') : Bld B l w' := by
  have hk : ∀ i, B ≤ i → i < w.heap.size → w'.heap[i]? = w.heap[i]? := fun i h1 h2 => k.block i h2 (fun e => by injection e with e; omega)
  have hat : ∀ p, Lib.BuilderAtF 48 5 B B p (Lib.byteCells l) w → Lib.BuilderAtF 48 5 B B p (Lib.byteCells l) w' := fun p ⟨h1, v, h2, h3, h4⟩ =>
    ⟨h1, v, by rw [hk B (Nat.le_refl _) (Array.getElem?_eq_some_iff.1 h2).1]; exact h2, ownsRowF_same h3 hk, h4⟩
  exact h.elim (fun x => .inl (hat _ x)) (fun x => .inr (hat _ x))
end Go.Proofs.YthmopindibdhnaaDoor
namespace Go.Proofs.YthmopindibdhnaaDoor
open Go.RowKit Go.Shelf
/-- the kind of the quote that a word, or a delimiter, begins -/
def kindL (l : List UInt8) : Option Int :=
  if l == [113] || l == [39] then some 4 else if l == [113, 113] || l == [34] then some 5 else if l == [113, 119] then some 6 else if l == [109] || l == [47] then some 7 else if l == [115] then some 8 else if l == [116, 114] then some 9 else none
def wordOr (l : List UInt8) : List UInt8 := if wordN l = 0 then l.take 1 else l.take (wordN l)
/-- the kind of the quote that begins a text, and how many bytes stand before its delimiter -/
def quoteL (l : List UInt8) : Option (Int × Nat) := match l[wordN l]? with
  | none => none
  | some c => if delimB c.toNat = true then (kindL (wordOr l)).map fun k => (k, wordN l) else none
def qkV : Option (Int × Nat) → Value
  | none => .tuple #[.int .i64 0, .int .i64 0, .bool false]
  | some (k, n) => .tuple #[.int .i64 k, .int .i64 n, .bool true]
set_option maxRecDepth 100000 in
set_option maxHeartbeats 2000000 in
theorem quoteKind_p (s : ByteArray) (hs : s.size ≤ 140737488351232) (w : World) : Calls Tryd.prog 50 #[.string s] w fun e w' => e = .returned (qkV (quoteL s.data.toList)) ∧ w = w' := by
  obtain ⟨l, hl⟩ : ∃ l, l = s.data.toList := ⟨_, rfl⟩
  have hsz : s.size = l.length := by rw [hl, ← sizeL]
  have HW := Lib.hid (fun w => word_p s hs w)
  rw [← hl] at HW ⊢
  have hle := wordN_le l
  obtain ⟨n, hn⟩ : ∃ n, n = wordN l := ⟨_, rfl⟩
  rw [← hn] at HW hle
  by_cases hlt : n < l.length
  · have hns : n < s.size := by omega
    have en : s[n] = l[n] := by subst hl; exact byteE s n hns hlt
    have HD := Lib.hid (fun w => delim_p l[n].toNat w)
    have b0 : (n : Int) < (s.size : Int) := by omega
    have b1 : ((n : Int) == (s.size : Int)) = false := by simp; omega
    by_cases hd : delimB l[n].toNat = true
    · rw [hd] at HD
      have HQ : Hid (quoteL l = (kindL (wordOr l)).map fun k => (k, n)) := Lib.hid (by unfold quoteL; rw [← hn, List.getElem?_eq_getElem hlt]; simp only; rw [if_pos hd])
      obtain ⟨t, ht⟩ : ∃ t : ByteArray, t = if n = 0 then s.extract 0 1 else s.extract 0 n := ⟨_, rfl⟩
      have htl : t.data.toList = wordOr l := by
        rw [ht]; unfold wordOr; rw [← hn]
        split
        · rw [extractE, ← hl]; simp
        · rw [extractE, ← hl]; simp
      have HK : Hid (kindL (wordOr l) = if (t.toList == [113] || t.toList == [39]) = true then some 4 else if (t.toList == [113, 113] || t.toList == [34]) = true then some 5 else if (t.toList == [113, 119]) = true then some 6 else if (t.toList == [109] || t.toList == [47]) = true then some 7 else if (t.toList == [115]) = true then some 8 else if (t.toList == [116, 114]) = true then some 9 else none) := Lib.hid (by rw [← htl, ByteArray.toList_eq]; rfl)
      generalize l[n] = x at *
      generalize quoteL l = q at *
      generalize kindL (wordOr l) = kk at *
      have bs : (1 : Int) ≤ (s.size : Int) := by omega
      by_cases h0 : n = 0
      · subst h0
        have Ht : Hid (s.extract 0 1 = t) := Lib.hid (by rw [ht]; rfl)
        clear hn hle hl hsz hd ht htl hlt
        go_enter Tryd.func50, Tryd.ntmps50
        go_wp2_with fail
        refine (HW.out _).mono ?_
        rintro e w1 ⟨rfl, rfl⟩
        go_wp2_with fail
        refine (HD.out _).mono ?_
        rintro e w1 ⟨rfl, rfl⟩
        have ht' := Ht.out
        go_wp2_with fail
        all_goals
          go_ret3
          refine ⟨?_, rfl⟩
          rw [HQ.out, HK.out]
          first
            | (simp [*, qkV]; done)
            | simp_all
      · have Ht : Hid (s.extract 0 n = t) := Lib.hid (by rw [ht, if_neg h0])
        have n0 : ((n : Int) == 0) = false := by simp; omega
        have n1 : (n : Int) ≤ (s.size : Int) := by omega
        clear hn hle hl hsz hd ht htl hlt h0
        go_enter Tryd.func50, Tryd.ntmps50
        go_wp2_with fail
        refine (HW.out _).mono ?_
        rintro e w1 ⟨rfl, rfl⟩
        go_wp2_with fail
        refine (HD.out _).mono ?_
        rintro e w1 ⟨rfl, rfl⟩
        have ht' := Ht.out
        go_wp2_with fail
        all_goals
          go_ret3
          refine ⟨?_, rfl⟩
          rw [HQ.out, HK.out]
          first
            | (simp [*, qkV]; done)
            | simp_all
    · rw [show delimB l[n].toNat = false by simpa using hd] at HD
      have HQ : Hid (quoteL l = none) := Lib.hid (by unfold quoteL; rw [← hn, List.getElem?_eq_getElem hlt]; simp only; rw [if_neg hd])
      generalize l[n] = x at *
      generalize quoteL l = q at *
      clear hn hle hl hsz hd hlt
      go_enter Tryd.func50, Tryd.ntmps50
      go_wp2_with fail
      refine (HW.out _).mono ?_
      rintro e w1 ⟨rfl, rfl⟩
      go_wp2_with fail
      refine (HD.out _).mono ?_
      rintro e w1 ⟨rfl, rfl⟩
      go_wp2_with fail
      go_ret3
      exact ⟨by rw [HQ.out]; rfl, rfl⟩
  · have hnl : n = s.size := by omega
    have HQ : Hid (quoteL l = none) := Lib.hid (by unfold quoteL; rw [← hn, List.getElem?_eq_none (by omega)])
    generalize quoteL l = q at *
    have n0 : ((n : Int) == (s.size : Int)) = true := by simp; omega
    clear hn hle hl hsz hlt hnl
    go_enter Tryd.func50, Tryd.ntmps50
    go_wp2_with fail
    refine (HW.out _).mono ?_
    rintro e w1 ⟨rfl, rfl⟩
    go_wp2_with fail
    go_ret3
    exact ⟨by rw [HQ.out]; rfl, rfl⟩
end Go.Proofs.YthmopindibdhnaaDoor
namespace Go.Proofs.YthmopindibdhnaaDoor
open Go.RowKit Go.Shelf
/-- where a part ends that has come to place n, d pairs deep -/
def endR (l : List UInt8) (o e : UInt8) : Nat → Nat → Nat → Option Nat
  | 0, _, _ => none
  | f + 1, d, n => match l[n]? with
    | none => none
    | some c => if c = 92 ∧ n + 1 < l.length then endR l o e f d (n + 2)
      else if c = e then (if d = 0 then some n else endR l o e f (d - 1) (n + 1))
      else if c = o then endR l o e f (d + 1) (n + 1) else endR l o e f d (n + 1)
variable {l : List UInt8} {o e : UInt8} {f d n m : Nat}
theorem endR_lt (h : endR l o e f d n = some m) : ∃ g, f = g + 1 ∧ n < l.length := by
  cases f with
  | zero => cases h
  | succ f =>
    by_cases hn : n < l.length
    · exact ⟨f, rfl, hn⟩
    · rw [endR, List.getElem?_eq_none (by omega)] at h; cases h
theorem endR_esc (h : endR l o e (f + 1) d n = some m) (hn : n + 1 < l.length) (hc : l[n] = 92) : endR l o e f d (n + 2) = some m := by
  rw [endR, List.getElem?_eq_getElem (by omega : n < l.length)] at h; simp only at h
  rw [if_pos ⟨hc, hn⟩] at h; exact h
theorem endR_end0 (h : endR l o e (f + 1) 0 n = some m) (hn : n < l.length) (hb : ¬ (l[n] = 92 ∧ n + 1 < l.length)) (hc : l[n] = e) : m = n := by
  rw [endR, List.getElem?_eq_getElem hn] at h; simp only at h
  rw [if_neg hb, if_pos hc] at h; simp at h; exact h.symm
theorem endR_endS (h : endR l o e (f + 1) (d + 1) n = some m) (hn : n < l.length) (hb : ¬ (l[n] = 92 ∧ n + 1 < l.length)) (hc : l[n] = e) : endR l o e f d (n + 1) = some m := by
  rw [endR, List.getElem?_eq_getElem hn] at h; simp only at h
  rw [if_neg hb, if_pos hc, if_neg (by omega)] at h; exact h
theorem endR_open (h : endR l o e (f + 1) d n = some m) (hn : n < l.length) (hb : ¬ (l[n] = 92 ∧ n + 1 < l.length)) (hc : l[n] ≠ e) (ho : l[n] = o) : endR l o e f (d + 1) (n + 1) = some m := by
  rw [endR, List.getElem?_eq_getElem hn] at h; simp only at h
  rw [if_neg hb, if_neg hc, if_pos ho] at h; exact h
theorem endR_else (h : endR l o e (f + 1) d n = some m) (hn : n < l.length) (hb : ¬ (l[n] = 92 ∧ n + 1 < l.length)) (hc : l[n] ≠ e) (ho : l[n] ≠ o) : endR l o e f d (n + 1) = some m := by
  rw [endR, List.getElem?_eq_getElem hn] at h; simp only at h
  rw [if_neg hb, if_neg hc, if_neg ho] at h; exact h
theorem endR_le (h : endR l o e f d n = some m) : n ≤ m ∧ m < l.length := by
  induction f generalizing d n with
  | zero => cases h
  | succ f ih =>
    obtain ⟨_, _, hn⟩ := endR_lt h
    rw [endR, List.getElem?_eq_getElem hn] at h; simp only at h
    split at h
    · have := ih h; omega
    · split at h
      · split at h
        · cases h; exact ⟨Nat.le_refl _, hn⟩
        · have := ih h; omega
      · split at h
        · have := ih h; omega
        · have := ih h; omega
variable {w : World} {P M : Nat} {s : ByteArray} {at_ en : Nat} {tm : Bool} {tv bv ov : Value}
theorem But.below {B : Nat} {w wr w' : World} (h : But P w wr) (k : Below B wr w') (hB : w.heap.size ≤ B) : But P w w' :=
  ⟨k.os.trans h.os, k.tape.trans h.tape, k.output.trans h.output, Nat.le_trans h.size k.size, fun i hi hn => (k.block i (by omega)).trans (h.block i hi hn)⟩
theorem Sc.below {B : Nat} {w w' : World} (h : Sc w P M s at_ en tm tv bv ov) (k : Below B w w') (hP : P < B) (hM : M < B) : Sc w' P M s at_ en tm tv bv ov :=
  ⟨by rw [k.block _ hP]; exact h.blk, by rw [k.block _ hM]; exact h.mp, h.ne⟩
def Quo (w : World) (Q P : Nat) (fr : Nat) (o : UInt8) : Prop := w.heap[Q]? = some (.cells #[.pointer (some ⟨P, 0, none⟩), .int .i64 fr, .int .u8 o.toNat] 79 (0, 0))
theorem Quo.cells {w : World} {Q fr : Nat} (h : Quo w Q P fr o) : w.cell? ⟨Q, 0, none⟩ = some (.pointer (some ⟨P, 0, none⟩)) ∧ w.cell? ⟨Q, 1, none⟩ = some (.int .i64 fr) ∧ w.cell? ⟨Q, 2, none⟩ = some (.int .u8 o.toNat) := by
  unfold Quo at h
  simp [World.cell?, h]
theorem Quo.but {w w' : World} {Q fr : Nat} (h : Quo w Q P fr o) (k : But P w w') (hne : Q ≠ P) : Quo w' Q P fr o := by
  unfold Quo at *
  rw [k.block _ (Array.getElem?_eq_some_iff.1 h).1 (fun e => hne (by injection e))]; exact h
theorem takeS {l : List UInt8} {a n : Nat} (h : n < l.length) (ha : a ≤ n) : (l.drop a).take (n + 1 - a) = (l.drop a).take (n - a) ++ [l[n]] := by
  rw [show n + 1 - a = (n - a) + 1 by omega, List.take_add_one, List.getElem?_drop, show a + (n - a) = n by omega, List.getElem?_eq_getElem h]
  rfl
def atLeft (m : Nat) (P : Nat) (w : World) : Nat := match w.cell? ⟨P, 1, none⟩ with
  | some (.int _ c) => ((m : Int) - c).toNat
  | _ => 0
set_option maxRecDepth 100000 in
set_option maxHeartbeats 2000000 in
theorem part_m {Q fr : Nat} (h : Sc w P M s at_ en tm tv bv ov) (hq : Quo w Q P fr o) (hQP : Q ≠ P) (hs : s.size ≤ 140737488351232) (he : (e.toNat : Int) = partI o.toNat) (he92 : e ≠ 92) (ho92 : o ≠ 92) (hm : endR s.data.toList o e f 0 at_ = some m) :
    Calls Tryd.prog 65 #[.pointer (some ⟨Q, 0, none⟩)] w fun e w' => e = .returned (.string ⟨((s.data.toList.drop at_).take (m - at_)).toArray⟩) ∧ Sc w' P M s (m + 1) en tm tv bv ov ∧ But P w w' := by
  have H := Lib.hid h
  have HQ := Lib.hid hq
  have HP := Lib.hid (fun w => part_p o.toNat w)
  rw [← he] at HP
  obtain ⟨l, hl⟩ : ∃ l, l = s.data.toList := ⟨_, rfl⟩
  have hsz : s.size = l.length := by rw [hl, ← sizeL]
  have HB := Lib.hid (fun n (h : n < s.size) (h' : n < l.length) => (show s[n] = l[n] by subst hl; exact byteE s n h h'))
  rw [← hl] at hm ⊢
  have hle := endR_le hm
  have Hm := Lib.hid hm
  have Hle := Lib.hid hle
  have Hsz := Lib.hid hsz
  have hPB : P < w.heap.size := h.lt.1
  have hMB : M < w.heap.size := h.lt.2
  have hQB : Q < w.heap.size := (Array.getElem?_eq_some_iff.1 hq).1
  have HST := Lib.hid (fun (W : World) (k : Nat) (hk : k ≤ 140737488351232) (hS : Sc W P M s k en tm tv bv ov) => step_p hS hk)
  clear h hq he hl hsz hm hle
  go_enter Tryd.func65, Tryd.ntmps65
  obtain ⟨q0, q1, q2⟩ := (HQ.out.but (But.of_gr ((Gr.refl w).alloc (.cells #[.pointer none, .slice none 0 0] 48))) hQP).cells
  go_wp2_with fail
  refine (HP.out _).mono ?_
  rintro e w1 ⟨rfl, rfl⟩
  go_wp2_with fail
  generalize hW : w.alloc (.cells #[.pointer none, .slice none 0 0] 48) = W1 at *
  have G1 : Hid (Gr w W1) := Lib.hid (by rw [← hW]; exact (Gr.refl w).alloc _)
  have hBl : Hid (Bld w.heap.size [] W1) := Lib.hid (by rw [← hW]; exact bld_new w)
  have hsz1 : Hid (W1.heap.size = w.heap.size + 1) := Lib.hid (by rw [← hW]; simp)
  clear hW q0 q1 q2 HP
  go_loopw [5, 6] (fun pv _ wr => ∃ (d n f : Nat), pv = .int .i64 (d : Int) ∧ at_ ≤ n ∧ d ≤ n ∧ Sc wr P M s n en tm tv bv ov ∧ Bld w.heap.size ((l.drop at_).take (n - at_)) wr ∧ But P w wr ∧ w.heap.size + 1 ≤ wr.heap.size ∧ Hid (endR l o e f d n = some m)) (fun _ _ wr => atLeft s.size P wr)
  case atStart => exact ⟨0, at_, f, rfl, Nat.le_refl _, Nat.zero_le _, H.out.gr G1.out, by simpa using hBl.out, But.of_gr G1.out, by rw [hsz1.out]; exact Nat.le_refl _, Hm⟩
  case round =>
    obtain ⟨d, n, f, rfl, han, hdn, hS, hBld, hBut, hZ, hE⟩ := hrel
    obtain ⟨f, rfl, hc⟩ := endR_lt hE.out
    have S := Lib.hid hS
    have Bl := Lib.hid hBld
    have Bu := Lib.hid hBut
    have Z := Lib.hid hZ
    clear hS hBld hBut hZ hBl G1 Hm hsz1
    obtain ⟨c0, c1, c2, c3, c4, c5, c6, c7, cf⟩ := S.out.cells
    obtain ⟨q0, q1, q2⟩ := (HQ.out.but Bu.out hQP).cells
    have C1 := Lib.hid c1
    have hsn : n < s.size := by rw [Hsz.out]; exact hc
    have hc' : (n : Int) < (s.size : Int) := by omega
    have ex := HB.out n hsn hc
    have hlS := Hsz.out
    have hTk := takeS hc han
    have hlen : ((l.drop at_).take (n - at_)).length ≤ n := by rw [List.length_take]; omega
    have HBd : Hid (((l.drop at_).take (n - at_)).length + 1 ≤ 140737488355328) := Lib.hid (by omega)
    obtain ⟨n1, hn1⟩ : ∃ n1, n1 = n + 1 := ⟨_, rfl⟩
    by_cases hesc : l[n] = 92 ∧ n + 1 < l.length
    · obtain ⟨h92, hn2⟩ := hesc
      have HE := Lib.hid (endR_esc hE.out hn2 h92)
      have hn1L : n1 < l.length := by omega
      have hsn1 : n1 < s.size := by omega
      have hc1 : (n1 : Int) < (s.size : Int) := by omega
      have ex1 := HB.out n1 hsn1 hn1L
      have hTk1 := takeS hn1L (by omega : at_ ≤ n1)
      have HT1 : Hid ((l.drop at_).take (n1 + 1 - at_) = (l.drop at_).take (n - at_) ++ [l[n]] ++ [l[n1]]) := Lib.hid (by rw [hTk1]; congr 1; rw [hn1]; exact hTk)
      have t92 : ((l[n].toNat : Int) == 92) = true := by rw [h92]; rfl
      generalize l[n] = x at *
      generalize l[n1] = y at *
      have Hn1 := Lib.hid hn1
      have Hln := Lib.hid hlen
      clear hE hTk HB hc hn2 h92 hTk1 hlen
      clear hlS hn1
      go_wp2_with fail
      go_quiet (fail)
      go_wp2_with fail
      go_quiet (fail)
      go_wp2_with fail
      refine (HST.out _ n (by omega) (S.out.gr ((Gr.refl wr).drewN _))).mono ?_
      rintro e1 w2 ⟨rfl, hS2, hb2⟩
      have K2 := Lib.hid ((But.of_gr (P := P) ((Gr.refl wr).drewN _)).trans hb2)
      have Z2 : Hid (w.heap.size + 1 ≤ w2.heap.size) := Lib.hid (Nat.le_trans Z.out K2.out.size)
      have B2 := Lib.hid (Bu.out.trans K2.out)
      have L2 := Lib.hid (Bld.but Bl.out hPB K2.out)
      rw [← Hn1.out] at hS2
      have S2 := Lib.hid hS2
      clear hS2 hb2 K2 c0 c1 c2 c3 c4 c5 c6 c7 cf q0 q1 q2 S Bu Bl Z
      obtain ⟨c0, c1, c2, c3, c4, c5, c6, c7, cf⟩ := S2.out.cells
      obtain ⟨q0, q1, q2⟩ := (HQ.out.but B2.out hQP).cells
      go_wp2_with fail
      go_quiet (fail)
      go_wp2_with fail
      refine (bld_byte x (Bld.but L2.out hPB (But.of_gr ((Gr.refl w2).drewN _))) (by have := HBd.out; omega) (by have := Z2.out; simp; omega)).mono ?_
      rintro e3 w3 ⟨rfl, hl3, hb3, _⟩
      have S3 := Lib.hid ((S2.out.gr ((Gr.refl w2).drewN _)).below hb3 hPB hMB)
      have B3 := Lib.hid ((B2.out.trans (But.of_gr ((Gr.refl w2).drewN _))).below hb3 (Nat.le_refl _))
      have L3 := Lib.hid hl3
      have Z3 : Hid (w.heap.size + 1 ≤ w3.heap.size) := Lib.hid (Nat.le_trans Z2.out (Nat.le_trans (by simp) hb3.size))
      clear hl3 hb3 L2 S2 B2 Z2 c0 c1 c2 c3 c4 c5 c6 c7 cf q0 q1 q2
      obtain ⟨c0, c1, c2, c3, c4, c5, c6, c7, cf⟩ := S3.out.cells
      obtain ⟨q0, q1, q2⟩ := (HQ.out.but B3.out hQP).cells
      go_wp2_with fail
      go_quiet (fail)
      go_wp2_with fail
      refine (HST.out _ n1 (by omega) (S3.out.gr ((Gr.refl w3).drewN _))).mono ?_
      rintro e4 w4 ⟨rfl, hS4, hb4⟩
      have K4 := Lib.hid ((But.of_gr (P := P) ((Gr.refl w3).drewN _)).trans hb4)
      have Z4 : Hid (w.heap.size + 1 ≤ w4.heap.size) := Lib.hid (Nat.le_trans Z3.out K4.out.size)
      have B4 := Lib.hid (B3.out.trans K4.out)
      have L4 := Lib.hid (Bld.but L3.out hPB K4.out)
      have S4 := Lib.hid hS4
      clear hS4 hb4 K4 c0 c1 c2 c3 c4 c5 c6 c7 cf q0 q1 q2 S3 B3 L3 Z3
      go_wp2_with fail
      refine (bld_byte y L4.out (by have := Hln.out; simp only [List.length_append, List.length_cons, List.length_nil]; omega) (by have := Z4.out; omega)).mono ?_
      rintro e5 w5 ⟨rfl, hl5, hb5, _⟩
      have S5 := Lib.hid (S4.out.below hb5 hPB hMB)
      have B5 := Lib.hid (B4.out.below hb5 (Nat.le_refl _))
      have L5 := Lib.hid hl5
      have Z5 : Hid (w.heap.size + 1 ≤ w5.heap.size) := Lib.hid (Nat.le_trans Z4.out hb5.size)
      clear hl5 hb5 L4 S4 B4 Z4
      go_wp2
      go_roundw
      case rel =>
        have e2 : n1 + 1 = n + 2 := by have := Hn1.out; omega
        exact ⟨d, n1 + 1, f, rfl, by have := Hn1.out; omega, by have := Hn1.out; omega, S5.out, by rw [HT1.out]; exact L5.out, B5.out, Z5.out, by rw [e2]; exact HE⟩
      case measure =>
        have e1 := S5.out.cells.2.1
        have e2 := C1.out
        have := Hn1.out
        simp only [atLeft, e1, e2]; omega
    · have hx92 : l[n] ≠ 92 := by
        intro h
        have hn2 : ¬ n + 1 < l.length := fun h2 => hesc ⟨h, h2⟩
        have h3 := endR_else hE.out hc hesc (by rw [h]; exact Ne.symm he92) (by rw [h]; exact Ne.symm ho92)
        obtain ⟨_, _, h4⟩ := endR_lt h3
        exact hn2 h4
      have t92 : ((l[n].toNat : Int) == 92) = false := by
        simp only [beq_eq_false_iff_ne, ne_eq]
        intro h
        exact hx92 (UInt8.toNat_inj.1 (by simpa using (by omega : l[n].toNat = 92)))
      by_cases hce : l[n] = e
      · have te : ((l[n].toNat : Int) == (e.toNat : Int)) = true := by rw [hce]; simp
        cases d with
        | zero =>
          have hmn := endR_end0 hE.out hc hesc hce
          generalize l[n] = x at *
          have Hmn := Lib.hid hmn
          have Hn1 := Lib.hid hn1
          clear hE hTk HB hc hx92 hce hmn hlen hesc
          clear hlS hn1
          go_wp2_with fail
          go_quiet (fail)
          go_wp2_with fail
          go_quiet (fail)
          go_wp2_with fail
          refine (HST.out _ n (by omega) (S.out.gr ((Gr.refl wr).drewN _))).mono ?_
          rintro e1 w2 ⟨rfl, hS2, hb2⟩
          have K2 := Lib.hid ((But.of_gr (P := P) ((Gr.refl wr).drewN _)).trans hb2)
          have Z2 : Hid (w.heap.size + 1 ≤ w2.heap.size) := Lib.hid (Nat.le_trans Z.out K2.out.size)
          have B2 := Lib.hid (Bu.out.trans K2.out)
          have L2 := Lib.hid (Bld.but Bl.out hPB K2.out)
          rw [← Hn1.out] at hS2
          have S2 := Lib.hid hS2
          clear hS2 hb2 K2 c0 c1 c2 c3 c4 c5 c6 c7 cf q0 q1 q2 S Bu Bl Z
          obtain ⟨c0, c1, c2, c3, c4, c5, c6, c7, cf⟩ := S2.out.cells
          obtain ⟨q0, q1, q2⟩ := (HQ.out.but B2.out hQP).cells
          go_wp2_with fail
          go_quiet (fail)
          go_wp2_with fail
          refine (bld_text (Bld.but L2.out hPB (But.of_gr ((Gr.refl w2).drewN _))) (by have := Z2.out; simp; omega)).mono ?_
          rintro e3 w3 ⟨rfl, hb3⟩
          go_wp2
          go_ret
          rw [Hmn.out]
          exact ⟨rfl, by rw [← Hn1.out]; exact (S2.out.gr ((Gr.refl w2).drewN _)).below hb3 hPB hMB, (B2.out.trans (But.of_gr ((Gr.refl w2).drewN _))).below hb3 (Nat.le_refl _)⟩
        | succ d =>
          have HE := Lib.hid (endR_endS hE.out hc hesc hce)
          have td : ((((d + 1 : Nat) : Int)) == 0) = false := by simp; omega
          have hd1 : ((d + 1 : Nat) : Int) - 1 = (d : Int) := by omega
          have bd : (d : Int) ≤ 9223372036854775807 := by omega
          have bd0 : -9223372036854775808 ≤ (d : Int) := by omega
          obtain ⟨d1, hd1'⟩ : ∃ d1, d1 = d + 1 := ⟨_, rfl⟩
          rw [← hd1'] at td hd1 ⊢
          rw [← hn1] at HE hTk
          generalize l[n] = x at *
          have HT1 := Lib.hid hTk
          have Hn1 := Lib.hid hn1
          have Hln := Lib.hid hlen
          have Hd := Lib.hid hd1'
          clear hE hTk HB hc hx92 hce hlen hesc hd1'
          clear hlS hn1
          go_wp2_with fail
          go_quiet (fail)
          go_wp2_with fail
          go_quiet (fail)
          go_wp2_with fail
          refine (HST.out _ n (by omega) (S.out.gr ((Gr.refl wr).drewN _))).mono ?_
          rintro e1 w2 ⟨rfl, hS2, hb2⟩
          have K2 := Lib.hid ((But.of_gr (P := P) ((Gr.refl wr).drewN _)).trans hb2)
          have Z2 : Hid (w.heap.size + 1 ≤ w2.heap.size) := Lib.hid (Nat.le_trans Z.out K2.out.size)
          have B2 := Lib.hid (Bu.out.trans K2.out)
          have L2 := Lib.hid (Bld.but Bl.out hPB K2.out)
          rw [← Hn1.out] at hS2
          have S2 := Lib.hid hS2
          clear hS2 hb2 K2 c0 c1 c2 c3 c4 c5 c6 c7 cf q0 q1 q2 S Bu Bl Z
          obtain ⟨c0, c1, c2, c3, c4, c5, c6, c7, cf⟩ := S2.out.cells
          obtain ⟨q0, q1, q2⟩ := (HQ.out.but B2.out hQP).cells
          go_wp2_with fail
          go_quiet (fail)
          go_wp2_with fail
          refine (bld_byte x (Bld.but L2.out hPB (But.of_gr ((Gr.refl w2).drewN _))) HBd.out (by have := Z2.out; simp; omega)).mono ?_
          rintro e3 w3 ⟨rfl, hl3, hb3, _⟩
          have S3 := Lib.hid ((S2.out.gr ((Gr.refl w2).drewN _)).below hb3 hPB hMB)
          have B3 := Lib.hid ((B2.out.trans (But.of_gr ((Gr.refl w2).drewN _))).below hb3 (Nat.le_refl _))
          have L3 := Lib.hid hl3
          have Z3 : Hid (w.heap.size + 1 ≤ w3.heap.size) := Lib.hid (Nat.le_trans Z2.out (Nat.le_trans (by simp) hb3.size))
          clear hl3 hb3 L2 S2 B2 Z2 c0 c1 c2 c3 c4 c5 c6 c7 cf q0 q1 q2
          go_wp2
          go_roundw
          all_goals have en1 := Hn1.out
          all_goals have ed1 := Hd.out
          case rel => exact ⟨d, n1, f, rfl, by omega, by omega, S3.out, by rw [HT1.out]; exact L3.out, B3.out, Z3.out, HE.out⟩
          case measure =>
            have e1 := S3.out.cells.2.1
            have e2 := C1.out
            simp only [atLeft, e1, e2]; omega
      · have te : ((l[n].toNat : Int) == (e.toNat : Int)) = false := by
          simp only [beq_eq_false_iff_ne, ne_eq]
          intro h
          exact hce (UInt8.toNat_inj.1 (by omega))
        by_cases hco : l[n] = o
        · have to : ((l[n].toNat : Int) == (o.toNat : Int)) = true := by rw [hco]; simp
          have HE := Lib.hid (endR_open hE.out hc hesc hce hco)
          obtain ⟨d1, hd1'⟩ : ∃ d1, d1 = d + 1 := ⟨_, rfl⟩
          have hw1 : IntKind.i64.wrap ((d : Int) + 1) = (d1 : Int) := by rw [IntKind.wrap_i64]; omega
          have hw2 : wrap64 ((d : Int) + 1) = (d1 : Int) := by simp only [wrap64]; omega
          have Hd := Lib.hid hd1'
          rw [← hn1, ← hd1'] at HE
          rw [← hn1] at hTk
          generalize l[n] = x at *
          have HT1 := Lib.hid hTk
          have Hn1 := Lib.hid hn1
          have Hln := Lib.hid hlen
          clear hE hTk HB hc hx92 hce hlen hesc hco hd1'
          clear hlS hn1
          go_wp2_with fail
          go_quiet (fail)
          go_wp2_with fail
          go_quiet (fail)
          go_wp2_with fail
          refine (HST.out _ n (by omega) (S.out.gr ((Gr.refl wr).drewN _))).mono ?_
          rintro e1 w2 ⟨rfl, hS2, hb2⟩
          have K2 := Lib.hid ((But.of_gr (P := P) ((Gr.refl wr).drewN _)).trans hb2)
          have Z2 : Hid (w.heap.size + 1 ≤ w2.heap.size) := Lib.hid (Nat.le_trans Z.out K2.out.size)
          have B2 := Lib.hid (Bu.out.trans K2.out)
          have L2 := Lib.hid (Bld.but Bl.out hPB K2.out)
          rw [← Hn1.out] at hS2
          have S2 := Lib.hid hS2
          clear hS2 hb2 K2 c0 c1 c2 c3 c4 c5 c6 c7 cf q0 q1 q2 S Bu Bl Z
          obtain ⟨c0, c1, c2, c3, c4, c5, c6, c7, cf⟩ := S2.out.cells
          obtain ⟨q0, q1, q2⟩ := (HQ.out.but B2.out hQP).cells
          go_wp2_with fail
          go_quiet (fail)
          go_wp2_with fail
          refine (bld_byte x (Bld.but L2.out hPB (But.of_gr ((Gr.refl w2).drewN _))) HBd.out (by have := Z2.out; simp; omega)).mono ?_
          rintro e3 w3 ⟨rfl, hl3, hb3, _⟩
          have S3 := Lib.hid ((S2.out.gr ((Gr.refl w2).drewN _)).below hb3 hPB hMB)
          have B3 := Lib.hid ((B2.out.trans (But.of_gr ((Gr.refl w2).drewN _))).below hb3 (Nat.le_refl _))
          have L3 := Lib.hid hl3
          have Z3 : Hid (w.heap.size + 1 ≤ w3.heap.size) := Lib.hid (Nat.le_trans Z2.out (Nat.le_trans (by simp) hb3.size))
          clear hl3 hb3 L2 S2 B2 Z2 c0 c1 c2 c3 c4 c5 c6 c7 cf q0 q1 q2
          clear hw1 hw2
          go_wp2
          go_roundw
          all_goals have en1 := Hn1.out
          all_goals have ed1 := Hd.out
          case rel => exact ⟨d1, n1, f, rfl, by omega, by omega, S3.out, by rw [HT1.out]; exact L3.out, B3.out, Z3.out, HE.out⟩
          case measure =>
            have e1 := S3.out.cells.2.1
            have e2 := C1.out
            simp only [atLeft, e1, e2]; omega
        · have to : ((l[n].toNat : Int) == (o.toNat : Int)) = false := by
            simp only [beq_eq_false_iff_ne, ne_eq]
            intro h
            exact hco (UInt8.toNat_inj.1 (by omega))
          have HE := Lib.hid (endR_else hE.out hc hesc hce hco)
          rw [← hn1] at HE hTk
          generalize l[n] = x at *
          have HT1 := Lib.hid hTk
          have Hn1 := Lib.hid hn1
          have Hln := Lib.hid hlen
          clear hE hTk HB hc hx92 hce hlen hesc hco
          clear hlS hn1
          go_wp2_with fail
          go_quiet (fail)
          go_wp2_with fail
          go_quiet (fail)
          go_wp2_with fail
          refine (HST.out _ n (by omega) (S.out.gr ((Gr.refl wr).drewN _))).mono ?_
          rintro e1 w2 ⟨rfl, hS2, hb2⟩
          have K2 := Lib.hid ((But.of_gr (P := P) ((Gr.refl wr).drewN _)).trans hb2)
          have Z2 : Hid (w.heap.size + 1 ≤ w2.heap.size) := Lib.hid (Nat.le_trans Z.out K2.out.size)
          have B2 := Lib.hid (Bu.out.trans K2.out)
          have L2 := Lib.hid (Bld.but Bl.out hPB K2.out)
          rw [← Hn1.out] at hS2
          have S2 := Lib.hid hS2
          clear hS2 hb2 K2 c0 c1 c2 c3 c4 c5 c6 c7 cf q0 q1 q2 S Bu Bl Z
          obtain ⟨c0, c1, c2, c3, c4, c5, c6, c7, cf⟩ := S2.out.cells
          obtain ⟨q0, q1, q2⟩ := (HQ.out.but B2.out hQP).cells
          go_wp2_with fail
          go_quiet (fail)
          go_wp2_with fail
          refine (bld_byte x (Bld.but L2.out hPB (But.of_gr ((Gr.refl w2).drewN _))) HBd.out (by have := Z2.out; simp; omega)).mono ?_
          rintro e3 w3 ⟨rfl, hl3, hb3, _⟩
          have S3 := Lib.hid ((S2.out.gr ((Gr.refl w2).drewN _)).below hb3 hPB hMB)
          have B3 := Lib.hid ((B2.out.trans (But.of_gr ((Gr.refl w2).drewN _))).below hb3 (Nat.le_refl _))
          have L3 := Lib.hid hl3
          have Z3 : Hid (w.heap.size + 1 ≤ w3.heap.size) := Lib.hid (Nat.le_trans Z2.out (Nat.le_trans (by simp) hb3.size))
          clear hl3 hb3 L2 S2 B2 Z2 c0 c1 c2 c3 c4 c5 c6 c7 cf q0 q1 q2
          go_wp2
          go_roundw
          all_goals have en1 := Hn1.out
          case rel => exact ⟨d, n1, f, rfl, by omega, by omega, S3.out, by rw [HT1.out]; exact L3.out, B3.out, Z3.out, HE.out⟩
          case measure =>
            have e1 := S3.out.cells.2.1
            have e2 := C1.out
            simp only [atLeft, e1, e2]; omega
end Go.Proofs.YthmopindibdhnaaDoor
