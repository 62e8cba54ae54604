/- The scanner's numbers. -/
import Derived.Test.YtaoehbnjipegoaaDoorLTok
namespace Go.Proofs.YtaoehbnjipegoaaDoor
open Go.RowKit Go.Shelf
/-- the end of digits that have come to place n -/
def digR (l : List UInt8) : Nat → Nat → Nat
  | 0, n => n
  | f + 1, n => match l[n]? with
    | none => n
    | some c => if digB c.toNat = true then digR l f (n + 1) else n
variable {l : List UInt8} {f n : Nat}
theorem digR_end (h : l.length ≤ n) : digR l f n = n := by
  cases f with
  | zero => rfl
  | succ f => rw [digR, List.getElem?_eq_none h]
theorem digR_on (h : n < l.length) (hf : l.length ≤ n + f) (hc : digB l[n].toNat = true) : ∃ f', l.length ≤ n + 1 + f' ∧ digR l f n = digR l f' (n + 1) := by
  cases f with
  | zero => omega
  | succ f => exact ⟨f, by omega, by rw [digR, List.getElem?_eq_getElem h]; simp only; rw [if_pos hc]⟩
theorem digR_stop (h : n < l.length) (hc : digB l[n].toNat = false) : digR l f n = n := by
  cases f with
  | zero => rfl
  | succ f => rw [digR, List.getElem?_eq_getElem h]; simp only; rw [if_neg (by rw [hc]; decide)]
variable {w : World} {P M : Nat} {s : ByteArray} {at_ en : Nat} {tm : Bool} {tv bv ov : Value}
set_option maxRecDepth 100000 in
set_option maxHeartbeats 1000000 in
theorem number_m (h : Sc w P M s at_ en tm tv bv ov) (hat : at_ < s.size) (hs : s.size ≤ 140737488351232) :
    Calls Tryd.prog 62 #[.pointer (some ⟨P, 0, none⟩)] w fun e w' => e = .returned (tok 1 (s.extract at_ (digR s.data.toList s.size (at_ + 1)))).val ∧ Sc w' P M s (digR s.data.toList s.size (at_ + 1)) en tm tv bv ov ∧ But P w w' := by
  have H := Lib.hid h
  have HD := Lib.hid dig_p
  obtain ⟨l, hl⟩ : ∃ l, l = s.data.toList := ⟨_, rfl⟩
  have hsz : s.size = l.length := by rw [hl, ← sizeL]
  have HB := Lib.hid (fun n (h : n < s.size) (h' : n < l.length) => (show s[n] = l[n] by subst hl; exact byteE s n h h'))
  have HR : Hid (∃ f, l.length ≤ at_ + 1 + f ∧ digR l s.size (at_ + 1) = digR l f (at_ + 1)) := Lib.hid ⟨s.size, by omega, rfl⟩
  rw [← hl]
  have HT := Lib.hid (fun (W : World) (hS : Sc W P M s at_ en tm tv bv ov) (n : Nat) (hn : at_ + n ≤ s.size) => take_p hS n hn hs)
  generalize digR l s.size (at_ + 1) = R at *
  have Hsz := Lib.hid hsz
  have hat' : (at_ : Int) < (s.size : Int) := by omega
  have hP : P < w.heap.size := h.lt.1
  have hM : M < w.heap.size := h.lt.2
  clear h hl hsz
  go_enter Tryd.func62, Tryd.ntmps62
  go_wp2_with fail
  generalize hW : w.alloc (.cells #[.int .i64 0, .int .i64 0, .string ⟨#[]⟩, .string ⟨#[]⟩, .string ⟨#[]⟩, .int .i64 0] 32) = W1
  have G1 : Hid (Gr w W1) := Lib.hid (by rw [← hW]; exact (Gr.refl w).alloc _)
  have K1 : Hid (W1.heap[w.heap.size]? = some (.cells #[.int .i64 0, .int .i64 0, .string ⟨#[]⟩, .string ⟨#[]⟩, .string ⟨#[]⟩, .int .i64 0] 32 (0, 0))) := Lib.hid (by rw [← hW]; exact heap_alloc_new w _)
  clear hW
  go_loopw [3] (fun sc wr => ∃ k f : Nat, sc = .int .i64 (k : Int) ∧ at_ + k ≤ s.size ∧ l.length ≤ at_ + k + f ∧ Gr W1 wr ∧ Hid (R = digR l f (at_ + k))) (fun sc _ => leftTo s.size sc)
  case atStart => obtain ⟨f, h2, h3⟩ := HR.out; exact ⟨1, f, rfl, by omega, h2, Gr.refl _, Lib.hid h3⟩
  case round =>
    obtain ⟨k, f, rfl, hk, hf, hg, hR⟩ := hrel
    clear HR
    have Hg := Lib.hid hg
    clear hg
    obtain ⟨c0, c1, c2, c3, c4, c5, c6, c7, cf⟩ := ((H.out.gr G1.out).gr Hg.out).cells
    obtain ⟨m, hm⟩ : ∃ m, m = at_ + k := ⟨_, rfl⟩
    have hm' : (at_ : Int) + (k : Int) = (m : Int) := by omega
    have bm : (m : Int) ≤ 9223372036854775807 := by omega
    have bk : (k : Int) + 1 ≤ 9223372036854775807 := by omega
    have bk2 : -9223372036854775808 ≤ (k : Int) + 1 := by omega
    have hwm : IntKind.i64.wrap (m : Int) = (m : Int) := by rw [IntKind.wrap_i64]; omega
    rw [← hm] at hR hf
    have Hm := Lib.hid hm
    by_cases hc : m < l.length
    · have hsn : m < s.size := by rw [Hsz.out]; exact hc
      have hc' : (m : Int) < (s.size : Int) := by omega
      have en_ := HB.out m hsn hc
      have hD := Lib.hid (fun w => HD.out l[m].toNat w)
      by_cases hd : digB l[m].toNat = true
      · have HE : Hid (∃ f', l.length ≤ m + 1 + f' ∧ R = digR l f' (m + 1)) := Lib.hid (by rw [hR.out]; exact digR_on hc hf hd)
        rw [hd] at hD
        generalize l[m] = x at *
        have Hf := Lib.hid hsn
        clear hd hR HB HD hf hk hm
        go_wp2_with fail
        go_quiet ((go_at_call 28; exact quiet_at (hD.out _)))
        go_wp2_with fail
        go_roundw
        case rel =>
          obtain ⟨f', h5, h6⟩ := HE.out
          have := Hm.out
          have e : at_ + (k + 1) = m + 1 := by omega
          exact ⟨k + 1, f', rfl, by omega, by omega, Hg.out.drewN _, Lib.hid (by rw [e]; exact h6)⟩
        case measure => have := Hm.out; simp only [leftTo]; omega
      · have hd' : digB l[m].toNat = false := by simpa using hd
        have E : Hid (R = m) := Lib.hid (by rw [hR.out, digR_stop hc hd'])
        rw [hd'] at hD
        generalize l[m] = x at *
        clear hd hd' hR HB HD hf hm hc
        go_wp2_with fail
        go_quiet ((go_at_call 28; exact quiet_at (hD.out _)))
        go_wp2_with fail
        refine (HT.out _ (((H.out.gr G1.out).gr Hg.out).gr ((Gr.refl wr).drewN _)) k (by omega)).mono ?_
        rintro e w2 ⟨rfl, hS2, hb2⟩
        have K2 := Lib.hid ((hb2.block _ (Nat.lt_of_lt_of_le (Array.getElem?_eq_some_iff.1 K1.out).1 (Gr.size (Hg.out.drewN _))) (by simp; omega)).trans (((Hg.out.drewN _).block _ (Array.getElem?_eq_some_iff.1 K1.out).1).trans K1.out))
        have B2 := Lib.hid ((But.of_gr (G1.out.trans (Hg.out.drewN _))).trans hb2)
        have S2 := Lib.hid hS2
        clear hS2 hb2 HT c0 c1 c2 c3 c4 c5 c6 c7 cf
        rw [← Hm.out] at S2 ⊢
        go_wp2_with (refine wpList_store_tok rfl (.tmp 2) (.tmp 35) rfl (t := tok 1 (s.extract at_ m)) rfl rfl K2.out rfl ?_)
        intro W3 hb3 hk3
        have B3 := Lib.hid hb3
        have K3 := Lib.hid hk3
        clear hb3 hk3
        go_wp2_with fail
        refine bodyPost_ret (results_tok rfl rfl K3.out) rfl ?_
        rw [E.out]
        exact ⟨rfl, S2.out.but B3.out (by omega) (by omega), B2.out.late (Nat.le_refl _) B3.out⟩
    · have E : Hid (R = m) := Lib.hid (by rw [hR.out, digR_end (by omega)])
      have hc' : decide (m < s.size) = false := by rw [Hsz.out]; simp; omega
      clear hR HB HD hf hm hc
      go_wp2_with fail
      go_quiet (fail)
      go_wp2_with fail
      refine (HT.out _ (((H.out.gr G1.out).gr Hg.out).gr ((Gr.refl wr).drewN _)) k (by omega)).mono ?_
      rintro e w2 ⟨rfl, hS2, hb2⟩
      have K2 := Lib.hid ((hb2.block _ (Nat.lt_of_lt_of_le (Array.getElem?_eq_some_iff.1 K1.out).1 (Gr.size (Hg.out.drewN _))) (by simp; omega)).trans (((Hg.out.drewN _).block _ (Array.getElem?_eq_some_iff.1 K1.out).1).trans K1.out))
      have B2 := Lib.hid ((But.of_gr (G1.out.trans (Hg.out.drewN _))).trans hb2)
      have S2 := Lib.hid hS2
      clear hS2 hb2 HT c0 c1 c2 c3 c4 c5 c6 c7 cf
      rw [← Hm.out] at S2 ⊢
      go_wp2_with (refine wpList_store_tok rfl (.tmp 2) (.tmp 35) rfl (t := tok 1 (s.extract at_ m)) rfl rfl K2.out rfl ?_)
      intro W3 hb3 hk3
      have B3 := Lib.hid hb3
      have K3 := Lib.hid hk3
      clear hb3 hk3
      go_wp2_with fail
      refine bodyPost_ret (results_tok rfl rfl K3.out) rfl ?_
      rw [E.out]
      exact ⟨rfl, S2.out.but B3.out (by omega) (by omega), B2.out.late (Nat.le_refl _) B3.out⟩
end Go.Proofs.YtaoehbnjipegoaaDoor
