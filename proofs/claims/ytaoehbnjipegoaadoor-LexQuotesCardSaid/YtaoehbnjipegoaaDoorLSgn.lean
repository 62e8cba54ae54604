/- The scanner's signs. -/
import Derived.Test.YtaoehbnjipegoaaDoorLSign
namespace Go.Proofs.YtaoehbnjipegoaaDoor
open Go.RowKit Go.Shelf
def signGo (l : List UInt8) : Nat → Nat
  | 0 => 0
  | n + 1 => if isSignB (l.take (n + 1)) = true then n + 1 else signGo l n
/-- how many bytes at the begin of a text are a sign, the longest one -/
def signN (l : List UInt8) : Nat := signGo l (min 3 l.length)
variable {w : World} {P M : Nat} {s : ByteArray} {at_ en : Nat} {tm : Bool} {tv bv ov : Value}
theorem signGo_le (l : List UInt8) : ∀ n, signGo l n ≤ n
  | 0 => Nat.le_refl _
  | n + 1 => by
    rw [signGo]
    split
    · exact Nat.le_refl _
    · exact Nat.le_succ_of_le (signGo_le l n)
def nat0 : Value → Nat
  | .int _ c => c.toNat
  | _ => 0
set_option maxRecDepth 100000 in
set_option maxHeartbeats 1000000 in
theorem sign_m (h : Sc w P M s at_ en tm tv bv ov) (hat : at_ ≤ s.size) (hs : s.size ≤ 140737488351232) (n : Nat) (hn : signN (s.data.toList.drop at_) = n) (h0 : 0 < n) :
    Calls Tryd.prog 63 #[.pointer (some ⟨P, 0, none⟩)] w fun e w' => e = .returned (tok 3 (s.extract at_ (at_ + n))).val ∧ Sc w' P M s (at_ + n) en tm tv bv ov ∧ But P w w' := by
  have H := Lib.hid h
  have HI := Lib.hid isSign_p
  obtain ⟨r, hr⟩ : ∃ r, r = s.extract at_ s.size := ⟨_, rfl⟩
  have hrs : r.size = s.size - at_ := by rw [hr]; simp [ByteArray.size_extract]
  have hrl : r.data.toList = s.data.toList.drop at_ := by rw [hr, dropE]
  have HE : Hid (∀ k : Nat, (r.extract 0 k).data.toList = r.data.toList.take k) := Lib.hid (fun k => by rw [extractE]; simp)
  have hmin : signN (s.data.toList.drop at_) = signGo r.data.toList (min 3 r.size) := by rw [signN, ← hrl, sizeL]
  rw [hmin] at hn
  have HR : Hid (n = signGo r.data.toList (min 3 r.size)) := Lib.hid hn.symm
  have hnr : n ≤ r.size := by have := signGo_le r.data.toList (min 3 r.size); omega
  have HT := Lib.hid (fun (W : World) (hS : Sc W P M s at_ en tm tv bv ov) => take_p hS n (by omega) hs)
  have b0 : (at_ : Int) ≤ (s.size : Int) := by omega
  have hP : P < w.heap.size := h.lt.1
  have hM : M < w.heap.size := h.lt.2
  have Hr := Lib.hid hr
  have Hrs := Lib.hid hrs
  clear h hn hmin hrl hrs
  go_enter Tryd.func63, Tryd.ntmps63
  go_wp2_with fail
  generalize hW : w.alloc (.cells #[.int .i64 0, .int .i64 0, .string ⟨#[]⟩, .string ⟨#[]⟩, .string ⟨#[]⟩, .int .i64 0] 32) = W1
  have G1 : Hid (Gr w W1) := Lib.hid (by rw [← hW]; exact (Gr.refl w).alloc _)
  have K1 : Hid (W1.heap[w.heap.size]? = some (.cells #[.int .i64 0, .int .i64 0, .string ⟨#[]⟩, .string ⟨#[]⟩, .string ⟨#[]⟩, .int .i64 0] 32 (0, 0))) := Lib.hid (by rw [← hW]; exact heap_alloc_new w _)
  clear hW
  obtain ⟨c0, c1, c2, c3, c4, c5, c6, c7, cf⟩ := (H.out.gr G1.out).cells
  go_quiet (fail)
  clear c0 c1 c2 c3 c4 c5 c6 c7 cf
  rw [← hr]
  clear hr
  go_wp2_with fail
  go_loopw [4] (fun sc wr => ∃ k : Nat, sc = .int .i64 (k : Int) ∧ k ≤ r.size ∧ Gr W1 wr ∧ Hid (n = signGo r.data.toList k)) (fun sc _ => nat0 sc)
  case atStart => exact ⟨min 3 r.size, by simp; omega, by omega, (Gr.refl _).drewN _, HR⟩
  case round =>
    obtain ⟨k, rfl, hk, hg, hR⟩ := hrel
    clear HR
    have Hg := Lib.hid hg
    clear hg
    cases k with
    | zero => exfalso; have := hR.out; rw [signGo] at this; omega
    | succ k =>
      have hkb : (k : Int) ≤ 9223372036854775807 := by have := Hrs.out; omega
      have hkc : -9223372036854775808 ≤ (k : Int) := by omega
      have hk1 : (0 : Int) < ((k + 1 : Nat) : Int) := by omega
      have hk2 : ((k + 1 : Nat) : Int) ≤ (r.size : Int) := by omega
      obtain ⟨m, hm⟩ : ∃ m, m = k + 1 := ⟨_, rfl⟩
      have hI := Lib.hid (fun w => HI.out (r.extract 0 (k + 1)) w)
      rw [HE.out] at hI
      by_cases hb : isSignB (r.data.toList.take (k + 1)) = true
      · have hnk : n = k + 1 := by have := hR.out; rw [signGo, if_pos hb] at this; exact this
        rw [hb] at hI
        rw [← hm] at hI hk1 hk2 hnk ⊢
        have Hnk := Lib.hid hnk
        clear hb hR HI HE hnk hm
        go_wp2_with fail
        refine (hI.out _).mono ?_
        rintro e w2 ⟨rfl, rfl⟩
        go_wp2_with fail
        rw [← Hnk.out]
        refine (HT.out _ ((H.out.gr G1.out).gr Hg.out)).mono ?_
        rintro e w2 ⟨rfl, hS2, hb2⟩
        have K2 := Lib.hid ((hb2.block _ (Nat.lt_of_lt_of_le (Array.getElem?_eq_some_iff.1 K1.out).1 (Gr.size Hg.out)) (by simp; omega)).trans ((Hg.out.block _ (Array.getElem?_eq_some_iff.1 K1.out).1).trans K1.out))
        have B2 := Lib.hid ((But.of_gr (G1.out.trans Hg.out)).trans hb2)
        have S2 := Lib.hid hS2
        clear hS2 hb2 HT
        go_wp2_with (refine wpList_store_tok rfl (.tmp 2) (.tmp 28) rfl (t := tok 3 (s.extract at_ (at_ + n))) rfl rfl K2.out rfl ?_)
        intro W3 hb3 hk3
        have B3 := Lib.hid hb3
        have K3 := Lib.hid hk3
        clear hb3 hk3
        go_wp2_with fail
        refine bodyPost_ret (results_tok rfl rfl K3.out) rfl ?_
        exact ⟨rfl, S2.out.but B3.out (by omega) (by omega), B2.out.late (Nat.le_refl _) B3.out⟩
      · have hR2 : Hid (n = signGo r.data.toList k) := Lib.hid (by have := hR.out; rw [signGo, if_neg hb] at this; exact this)
        have hks : ((k + 1 : Nat) : Int) - 1 = (k : Int) := by omega
        rw [show isSignB (r.data.toList.take (k + 1)) = false by simpa using hb] at hI
        rw [← hm] at hI hk1 hk2 hks ⊢
        have Hm := Lib.hid hm
        clear hb hR HI HE hm
        go_wp2_with fail
        refine (hI.out _).mono ?_
        rintro e w2 ⟨rfl, rfl⟩
        go_wp2_with fail
        go_roundw
        case rel => exact ⟨k, rfl, by omega, Hg.out, hR2⟩
        case measure => have := Hm.out; simp only [nat0]; omega
end Go.Proofs.YtaoehbnjipegoaaDoor
