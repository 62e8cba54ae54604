/- GSkip GTok GBad -/
import Derived.Test.YthmopindibdhnaaDoorM06
import Derived.Test.YthmopindibdhnaaDoorM03
import Derived.Test.YthmopindibdhnaaDoorM04
namespace Go.Proofs.YthmopindibdhnaaDoor.G
open Go.RowKit Go.Shelf Go.Maps
variable {w w' : World} {P : Nat} {M : GoMap} {s : ByteArray} {at_ en : Nat} {tm : Bool} {tv bv ov : Value}
theorem Sc.left (h : Sc w P M s at_ en tm tv bv ov) (m : Nat) : atLeft m P w = ((m : Int) - (at_ : Int)).toNat := by
  have e := h.cells.2.1
  simp only [atLeft, e]
theorem nl_lit {x : UInt8} (h : x ≠ 10) : ((x.toNat : Int) != 10) = true := by
  have : (x.toNat : Int) ≠ 10 := fun e => h (UInt8.toNat_inj.1 (by simpa using Int.ofNat.inj e))
  simpa using this
set_option maxRecDepth 100000 in
set_option maxHeartbeats 1000000 in
theorem skipComment_m (h : Sc w P M s at_ en tm tv bv ov) (hs : s.size ≤ 140737488351232) (ha : at_ ≤ s.size) :
    Calls Tryd.prog 33 #[.pointer (some ⟨P, 0, none⟩)] w fun e w' => e = .returned (.tuple #[]) ∧ Sc w' P M s (at_ + (lineOf s.data.toList at_).length) en tm tv bv ov ∧ But P w w' := by
  have H := Lib.hid h
  obtain ⟨l, hl⟩ : ∃ l, l = s.data.toList := ⟨_, rfl⟩
  have hsz : s.size = l.length := by rw [hl, ← sizeL]
  have HB := Lib.hid (fun n (h : n < s.size) (h' : n < l.length) => (show s[n] = l[n] by subst hl; exact byteE s n h h'))
  rw [← hl]
  have hle := line_le l at_ (by omega)
  have HE : Hid (∀ n, at_ ≤ n → n ≤ at_ + (lineOf l at_).length → (n = at_ + (lineOf l at_).length ∧ (∀ h : n < l.length, l[n] = 10)) ∨ (n < at_ + (lineOf l at_).length ∧ n < l.length ∧ ∀ h : n < l.length, l[n] ≠ 10)) := Lib.hid (fun n h1 h2 => by
    by_cases h3 : at_ + (lineOf l at_).length < l.length
    · obtain ⟨e1, e2⟩ := eol_some h3
      rcases Nat.lt_or_eq_of_le h2 with h4 | h4
      · exact .inr ⟨h4, by omega, fun h e => e2 n h1 h4 (by rw [List.getElem?_eq_getElem h, e])⟩
      · exact .inl ⟨h4, fun h => by subst h4; exact (List.getElem?_eq_some_iff.1 e1).2⟩
    · rcases Nat.lt_or_eq_of_le h2 with h4 | h4
      · exact .inr ⟨h4, by omega, fun h e => eol_none h3 h1 (by rw [List.getElem?_eq_getElem h, e])⟩
      · exact .inl ⟨h4, fun h => by omega⟩)
  obtain ⟨E, hE⟩ : ∃ E, E = at_ + (lineOf l at_).length := ⟨_, rfl⟩
  rw [← hE] at HE hle ⊢
  have Hle := Lib.hid hle
  have Hae : Hid (at_ ≤ E) := Lib.hid (by omega)
  have Hsz := Lib.hid hsz
  clear h hl hsz hE hle ha
  go_enter Tryd.func33, Tryd.ntmps33
  go_wp2_with fail
  go_loopw [] (fun wr => ∃ n : Nat, at_ ≤ n ∧ n ≤ E ∧ Sc wr P M s n en tm tv bv ov ∧ But P w wr) (fun wr => atLeft s.size P wr)
  case atStart => exact ⟨at_, Nat.le_refl _, Hae.out, H.out, But.refl P w⟩
  case round =>
    obtain ⟨n, han, hnE, hS, hBu⟩ := hrel
    have S := Lib.hid hS
    have Bu := Lib.hid hBu
    clear hS hBu
    obtain ⟨c0, c1, c2, c3, c4, c5, c6, c7, cf⟩ := S.out.cells
    have Han := Lib.hid han
    have HnE := Lib.hid hnE
    rcases HE.out n han hnE with ⟨h1, h2⟩ | ⟨h1, h2, h3⟩
    · have h1' := Lib.hid h1
      clear h1 han hnE
      by_cases hc : n < l.length
      · have hsn : n < s.size := by rw [Hsz.out]; exact hc
        have hc' : (n : Int) < (s.size : Int) := by omega
        have ex := HB.out n hsn hc
        have h10 : ((l[n].toNat : Int) != 10) = false := by rw [h2 hc]; rfl
        generalize l[n] = x at *
        clear h2 HE HB hc
        go_wp2_with fail
        go_quiet (fail)
        go_wp2_with fail
        go_end0
        have e := h1'.out
        subst e
        exact ⟨rfl, S.out.gr ((Gr.refl _).drewN _), Bu.out.trans (But.of_gr ((Gr.refl _).drewN _))⟩
      · have g1 : decide (n < s.size) = false := by rw [Hsz.out]; simp; omega
        have g2 : decide ((n : Int) < (s.size : Int)) = false := by rw [Hsz.out]; simp; omega
        clear h2 HE HB hc
        go_wp2_with fail
        go_quiet (fail)
        go_wp2_with fail
        go_end0
        have e := h1'.out
        subst e
        exact ⟨rfl, S.out.gr ((Gr.refl _).drewN _), Bu.out.trans (But.of_gr ((Gr.refl _).drewN _))⟩
    · have hsn : n < s.size := by rw [Hsz.out]; exact h2
      have hc' : (n : Int) < (s.size : Int) := by omega
      have ex := HB.out n hsn h2
      have h10 := nl_lit (h3 h2)
      generalize l[n] = x at *
      have b0 : (n : Int) + 1 ≤ 9223372036854775807 := by omega
      have b1 : -9223372036854775808 ≤ (n : Int) + 1 := by omega
      have H1 := Lib.hid h1
      have Hsn := Lib.hid hsn
      clear h1 h2 h3 HE HB han hnE
      go_wp2_with fail
      go_quiet (fail)
      go_wp2_with fail
      go_roundw
      case rel =>
        have := Han.out
        have := H1.out
        exact ⟨n + 1, by omega, by omega, (S.out.gr ((Gr.refl _).drewN _)).setAt (n + 1), (Bu.out.trans (But.of_gr ((Gr.refl _).drewN _))).trans (But.set 1 _)⟩
      case measure =>
        have e2 : ∀ k, atLeft s.size P ((wr.drewN k).setCell ⟨P, 1, none⟩ (.int .i64 ((n : Int) + 1))) = ((s.size : Int) - ((n : Int) + 1)).toNat := fun k => by
          have := ((S.out.gr ((Gr.refl wr).drewN k)).setAt (n + 1)).left s.size
          rw [Int.natCast_add] at this
          exact this
        have := Hsn.out
        rw [S.out.left, e2]
        omega
variable {l : List UInt8}
/-- the scanner skips, and reports whether something is left -/
theorem skip_m (h : Sc w P M s at_ en tm tv bv ov) (hs : s.size ≤ 140737488351232) (ha : at_ ≤ s.size) (hJ : JOk s.data.toList M.J) :
    Calls Tryd.prog 22 #[.pointer (some ⟨P, 0, none⟩)] w fun e w' => ∃ b : Nat, e = .returned (.bool (decide (b < s.data.toList.length))) ∧ Sc w' P M s b en tm tv bv ov ∧ But P w w' ∧ at_ ≤ b ∧ b ≤ s.data.toList.length ∧ rest s.data.toList M.J b = skipS false (rest s.data.toList M.J at_) := by
  have H := Lib.hid h
  obtain ⟨l, hl⟩ : ∃ l, l = s.data.toList := ⟨_, rfl⟩
  have hsz : s.size = l.length := by rw [hl, ← sizeL]
  have HB := Lib.hid (fun n (h : n < s.size) (h' : n < l.length) => (show s[n] = l[n] by subst hl; exact byteE s n h h'))
  have HST := Lib.hid (fun (W : World) (k : Nat) (hk : k ≤ 140737488351232) (hS : Sc W P M s k en tm tv bv ov) => step_m hS hk)
  have HSC := Lib.hid (fun (W : World) (k : Nat) (hk : k ≤ s.size) (hS : Sc W P M s k en tm tv bv ov) => skipComment_m hS hs hk)
  have HK := Lib.hid (fun x w => blk_p x w)
  rw [← hl] at hJ HSC ⊢
  have HJ := Lib.hid hJ
  have Hsz := Lib.hid hsz
  have HA : Hid (at_ ≤ l.length) := Lib.hid (by omega)
  obtain ⟨R, hR⟩ : ∃ R, R = skipS false (rest l M.J at_) := ⟨_, rfl⟩
  have HR := Lib.hid hR
  rw [← hR]
  clear h hl hsz hJ hR ha
  go_enter Tryd.func22, Tryd.ntmps22
  go_wp2_with fail
  go_loopw [3] (fun _ wr => ∃ n : Nat, at_ ≤ n ∧ n ≤ l.length ∧ Sc wr P M s n en tm tv bv ov ∧ But P w wr ∧ Hid (R = skipS false (rest l M.J n))) (fun _ wr => atLeft s.size P wr)
  case atStart => exact ⟨at_, Nat.le_refl _, HA.out, H.out, But.refl P w, HR⟩
  case round =>
    obtain ⟨n, han, hnl, hS, hBu, hRn⟩ := hrel
    have S := Lib.hid hS
    have Bu := Lib.hid hBu
    clear hS hBu HR
    obtain ⟨c0, c1, c2, c3, c4, c5, c6, c7, cf⟩ := S.out.cells
    have Han := Lib.hid han
    have Hnl := Lib.hid hnl
    by_cases hc : n < l.length
    · have hsn : n < s.size := by rw [Hsz.out]; exact hc
      have hc' : (n : Int) < (s.size : Int) := by omega
      have ex := HB.out n hsn hc
      have hk : n ≤ 140737488351232 := by omega
      have Hk := Lib.hid hk
      have Hsn := Lib.hid hsn
      have Hnx := Lib.hid (nx_gt HJ.out n)
      have Hnx2 := Lib.hid (nx_le HJ.out hc)
      by_cases hb : blkB l[n].toNat = true
      · have HN : Hid (R = skipS false (rest l M.J (nx M.J n))) := Lib.hid (by rw [hRn.out, skip_blk HJ.out hc hb])
        generalize l[n] = x at *
        clear han hnl hk HB hc
        go_wp2_with fail
        go_quiet (fail)
        go_wp2_with fail
        go_quiet (fail)
        go_wp2_with fail
        refine (HK.out _ _).mono ?_
        rintro e w2 ⟨rfl, rfl⟩
        go_wp2_with fail
        refine (HST.out _ n Hk.out (S.out.gr ((Gr.refl _).drewN _))).mono ?_
        rintro e w2 ⟨rfl, hS2, hb2⟩
        have S2 := Lib.hid hS2
        have Bu2 := Lib.hid hb2
        clear hS2 hb2
        go_wp2_with fail
        go_roundw
        case rel => have := Han.out; have := Hnx.out; exact ⟨nx M.J n, by omega, Hnx2.out, S2.out, (Bu.out.trans (But.of_gr ((Gr.refl _).drewN _))).trans Bu2.out, HN⟩
        case measure =>
          have := Hsn.out
          have := Hnx.out
          rw [S.out.left, S2.out.left]
          omega
      · have hb' : blkB l[n].toNat = false := by simpa using hb
        by_cases h35 : l[n] = 35
        · have HN : Hid (R = skipS false (rest l M.J (n + (lineOf l n).length))) := Lib.hid (by rw [hRn.out, skip_com HJ.out hc h35])
          have Hll := Lib.hid (line_le l n hnl)
          have HL0 : Hid (0 < (lineOf l n).length) := Lib.hid (by
            unfold lineOf
            rw [List.drop_eq_getElem_cons hc, List.takeWhile_cons, h35]
            simp)
          have t35 : ((l[n].toNat : Int) == 35) = true := by rw [h35]; rfl
          generalize l[n] = x at *
          have HSC2 := Lib.hid (fun (W : World) (hS : Sc W P M s n en tm tv bv ov) => HSC.out W n (Nat.le_of_lt Hsn.out) hS)
          generalize (lineOf l n).length = E at *
          clear han hnl hk HB hc hb h35 HSC
          go_wp2_with fail
          go_quiet (fail)
          go_wp2_with fail
          go_quiet (fail)
          go_wp2_with fail
          refine (HK.out _ _).mono ?_
          rintro e w2 ⟨rfl, rfl⟩
          go_wp2_with fail
          refine (HSC2.out _ (S.out.gr ((Gr.refl _).drewN _))).mono ?_
          rintro e w2 ⟨rfl, hS2, hb2⟩
          have S2 := Lib.hid hS2
          have Bu2 := Lib.hid hb2
          clear hS2 hb2
          go_wp2_with fail
          go_roundw
          case rel => have := Han.out; exact ⟨n + E, by omega, Hll.out, S2.out, (Bu.out.trans (But.of_gr ((Gr.refl _).drewN _))).trans Bu2.out, HN⟩
          case measure =>
            have := Hsn.out
            have := HL0.out
            rw [S.out.left, S2.out.left]
            omega
        · have HN : Hid (R = rest l M.J n) := Lib.hid (by rw [hRn.out, skip_stop HJ.out (fun _ => ⟨hb', h35⟩)])
          have t35 : ((l[n].toNat : Int) == 35) = false := by
            simp only [beq_eq_false_iff_ne, ne_eq]
            intro h
            exact h35 (UInt8.toNat_inj.1 (by simpa using Int.ofNat.inj h))
          have HD : Hid (decide (n < l.length) = true) := Lib.hid (by simpa using hc)
          generalize l[n] = x at *
          clear han hnl hk HB hc hb h35
          go_wp2_with fail
          go_quiet (fail)
          go_wp2_with fail
          go_quiet (fail)
          go_wp2_with fail
          refine (HK.out _ _).mono ?_
          rintro e w2 ⟨rfl, rfl⟩
          go_wp2_with fail
          go_ret
          exact ⟨n, by rw [HD.out]; rfl, S.out.gr ((Gr.refl _).drewN _), Bu.out.trans (But.of_gr ((Gr.refl _).drewN _)), Han.out, Hnl.out, HN.out.symm⟩
    · have HN : Hid (R = rest l M.J n) := Lib.hid (by rw [hRn.out, skip_stop HJ.out (fun h => absurd h hc)])
      have HD : Hid (decide (n < l.length) = false) := Lib.hid (by simpa using hc)
      have g1 : decide (n < s.size) = false := by rw [Hsz.out]; simp; omega
      have g2 : decide ((n : Int) < (s.size : Int)) = false := by rw [Hsz.out]; simp; omega
      clear han hnl HB hc
      go_wp2_with fail
      go_quiet (fail)
      go_wp2_with fail
      go_ret
      exact ⟨n, by rw [HD.out]; rfl, S.out.gr ((Gr.refl _).drewN _), Bu.out.trans (But.of_gr ((Gr.refl _).drewN _)), Han.out, Hnl.out, HN.out.symm⟩
end Go.Proofs.YthmopindibdhnaaDoor.G
namespace Go.Proofs.YthmopindibdhnaaDoor.G
open Go.RowKit Go.Shelf Go.Maps
variable {w : World} {P : Nat} {M : GoMap} {s : ByteArray} {at_ en : Nat} {tm : Bool} {tv bv ov : Value}
set_option maxRecDepth 100000 in
theorem word_m (h : Sc w P M s at_ en tm tv bv ov) (hat : at_ ≤ s.size) (n : Nat) (hw : wordN (s.data.toList.drop at_) = n) (hn : n ≤ 12) (hs : s.size ≤ 140737488351232) :
    Calls Tryd.prog 43 #[.pointer (some ⟨P, 0, none⟩)] w fun e w' => e = .returned (tok 0 (s.extract at_ (at_ + n))).val ∧ Sc w' P M s (at_ + n) en tm tv bv ov ∧ But P w w' := by
  obtain ⟨c0, c1, c2, c3, c4, c5, c6, c7, cf⟩ := h.cells
  have H := Lib.hid h
  have hln := wordN_le (s.data.toList.drop at_)
  rw [hw, List.length_drop, sizeL] at hln
  have HW := Lib.hid (fun w => word_p (s.extract at_ s.size) (by simp [ByteArray.size_extract]; omega) w)
  rw [dropE, hw] at HW
  have HT := Lib.hid (fun (W : World) (hS : Sc W P M s at_ en tm tv bv ov) => take_m hS n (by omega) hs)
  have b0 : (at_ : Int) ≤ (s.size : Int) := by omega
  have b1 : ¬ (n : Int) > 12 := by omega
  clear h hw hln hat
  go_enter Tryd.func43, Tryd.ntmps43
  go_wp2_with fail
  generalize hW : w.alloc (.cells #[.int .i64 0, .int .i64 0, .string ⟨#[]⟩, .string ⟨#[]⟩, .string ⟨#[]⟩, .int .i64 0] 32) = W1
  have G1 : Hid (Gr w W1) := Lib.hid (by rw [← hW]; exact (Gr.refl w).alloc _)
  have K1 : Hid (W1.heap[w.heap.size]? = some (.cells #[.int .i64 0, .int .i64 0, .string ⟨#[]⟩, .string ⟨#[]⟩, .string ⟨#[]⟩, .int .i64 0] 32 (0, 0))) := Lib.hid (by rw [← hW]; exact heap_alloc_new w _)
  clear hW c0 c1 c2 c3 c4 c5 c6 c7 cf
  obtain ⟨c0, c1, c2, c3, c4, c5, c6, c7, cf⟩ := (H.out.gr G1.out).cells
  go_quiet ((go_at_call 58; exact quiet_at (HW.out _)))
  go_wp2_with fail
  refine (HT.out _ (H.out.gr (G1.out.drewN _))).mono ?_
  rintro e w2 ⟨rfl, hS2, hb2⟩
  have hP : P < w.heap.size := H.out.lt.1
  have hM : M.blk < w.heap.size := H.out.lt.2
  have K2 := Lib.hid ((hb2.block _ (Array.getElem?_eq_some_iff.1 K1.out).1 (by simp; omega)).trans K1.out)
  have B2 := Lib.hid ((But.of_gr (G1.out.drewN _)).trans hb2)
  have S2 := Lib.hid hS2
  clear hS2 hb2 K1 HT HW c0 c1 c2 c3 c4 c5 c6 c7 cf
  go_wp2_with (refine wpList_store_tok rfl (.tmp 2) (.tmp 24) rfl (t := tok 0 (s.extract at_ (at_ + n))) rfl rfl K2.out rfl ?_)
  intro W3 hb3 hk3
  have B3 := Lib.hid hb3
  have K3 := Lib.hid hk3
  clear hb3 hk3
  go_wp2_with fail
  refine bodyPost_ret (results_tok rfl rfl K3.out) rfl ?_
  exact ⟨rfl, S2.out.but B3.out (by omega) (by omega), B2.out.late (Nat.le_refl _) B3.out⟩
variable {l : List UInt8} {f n : Nat}
variable {w : World} {P : Nat} {M : GoMap} {s : ByteArray} {at_ en : Nat} {tm : Bool} {tv bv ov : Value}
set_option maxRecDepth 100000 in
set_option maxHeartbeats 1000000 in
theorem number_m (h : Sc w P M s at_ en tm tv bv ov) (hat : at_ < s.size) (hs : s.size ≤ 140737488351232) :
    Calls Tryd.prog 45 #[.pointer (some ⟨P, 0, none⟩)] w fun e w' => e = .returned (tok 1 (s.extract at_ (digR s.data.toList s.size (at_ + 1)))).val ∧ Sc w' P M s (digR s.data.toList s.size (at_ + 1)) en tm tv bv ov ∧ But P w w' := by
  have H := Lib.hid h
  have HD := Lib.hid dig_p
  obtain ⟨l, hl⟩ : ∃ l, l = s.data.toList := ⟨_, rfl⟩
  have hsz : s.size = l.length := by rw [hl, ← sizeL]
  have HB := Lib.hid (fun n (h : n < s.size) (h' : n < l.length) => (show s[n] = l[n] by subst hl; exact byteE s n h h'))
  have HR : Hid (∃ f, l.length ≤ at_ + 1 + f ∧ digR l s.size (at_ + 1) = digR l f (at_ + 1)) := Lib.hid ⟨s.size, by omega, rfl⟩
  rw [← hl]
  have HT := Lib.hid (fun (W : World) (hS : Sc W P M s at_ en tm tv bv ov) (n : Nat) (hn : at_ + n ≤ s.size) => take_m hS n hn hs)
  generalize digR l s.size (at_ + 1) = R at *
  have Hsz := Lib.hid hsz
  have hat' : (at_ : Int) < (s.size : Int) := by omega
  have hP : P < w.heap.size := h.lt.1
  have hM : M.blk < w.heap.size := h.lt.2
  clear h hl hsz
  go_enter Tryd.func45, Tryd.ntmps45
  go_wp2_with fail
  generalize hW : w.alloc (.cells #[.int .i64 0, .int .i64 0, .string ⟨#[]⟩, .string ⟨#[]⟩, .string ⟨#[]⟩, .int .i64 0] 32) = W1
  have G1 : Hid (Gr w W1) := Lib.hid (by rw [← hW]; exact (Gr.refl w).alloc _)
  have K1 : Hid (W1.heap[w.heap.size]? = some (.cells #[.int .i64 0, .int .i64 0, .string ⟨#[]⟩, .string ⟨#[]⟩, .string ⟨#[]⟩, .int .i64 0] 32 (0, 0))) := Lib.hid (by rw [← hW]; exact heap_alloc_new w _)
  clear hW
  go_loopw [3] (fun sc wr => ∃ k f : Nat, sc = .int .i64 (k : Int) ∧ at_ + k ≤ s.size ∧ l.length ≤ at_ + k + f ∧ Gr W1 wr ∧ Hid (R = digR l f (at_ + k))) (fun sc _ => leftTo s.size sc)
  case atStart => obtain ⟨f, h2, h3⟩ := HR.out; exact ⟨1, f, rfl, by omega, h2, Gr.refl _, Lib.hid h3⟩
  case round =>
    obtain ⟨k, f, rfl, hk, hf, hg, hR⟩ := hrel
    clear HR
    have Hg := Lib.hid hg
    clear hg
    obtain ⟨c0, c1, c2, c3, c4, c5, c6, c7, cf⟩ := ((H.out.gr G1.out).gr Hg.out).cells
    obtain ⟨m, hm⟩ : ∃ m, m = at_ + k := ⟨_, rfl⟩
    have hm' : (at_ : Int) + (k : Int) = (m : Int) := by omega
    have bm : (m : Int) ≤ 9223372036854775807 := by omega
    have bk : (k : Int) + 1 ≤ 9223372036854775807 := by omega
    have bk2 : -9223372036854775808 ≤ (k : Int) + 1 := by omega
    have hwm : IntKind.i64.wrap (m : Int) = (m : Int) := by rw [IntKind.wrap_i64]; omega
    rw [← hm] at hR hf
    have Hm := Lib.hid hm
    by_cases hc : m < l.length
    · have hsn : m < s.size := by rw [Hsz.out]; exact hc
      have hc' : (m : Int) < (s.size : Int) := by omega
      have en_ := HB.out m hsn hc
      have hD := Lib.hid (fun w => HD.out l[m].toNat w)
      by_cases hd : digB l[m].toNat = true
      · have HE : Hid (∃ f', l.length ≤ m + 1 + f' ∧ R = digR l f' (m + 1)) := Lib.hid (by rw [hR.out]; exact digR_on hc hf hd)
        rw [hd] at hD
        generalize l[m] = x at *
        have Hf := Lib.hid hsn
        clear hd hR HB HD hf hk hm
        go_wp2_with fail
        go_quiet ((go_at_call 44; exact quiet_at (hD.out _)))
        go_wp2_with fail
        go_roundw
        case rel =>
          obtain ⟨f', h5, h6⟩ := HE.out
          have := Hm.out
          have e : at_ + (k + 1) = m + 1 := by omega
          exact ⟨k + 1, f', rfl, by omega, by omega, Hg.out.drewN _, Lib.hid (by rw [e]; exact h6)⟩
        case measure => have := Hm.out; simp only [leftTo]; omega
      · have hd' : digB l[m].toNat = false := by simpa using hd
        have E : Hid (R = m) := Lib.hid (by rw [hR.out, digR_stop hc hd'])
        rw [hd'] at hD
        generalize l[m] = x at *
        clear hd hd' hR HB HD hf hm hc
        go_wp2_with fail
        go_quiet ((go_at_call 44; exact quiet_at (hD.out _)))
        go_wp2_with fail
        refine (HT.out _ (((H.out.gr G1.out).gr Hg.out).gr ((Gr.refl wr).drewN _)) k (by omega)).mono ?_
        rintro e w2 ⟨rfl, hS2, hb2⟩
        have K2 := Lib.hid ((hb2.block _ (Nat.lt_of_lt_of_le (Array.getElem?_eq_some_iff.1 K1.out).1 (Gr.size (Hg.out.drewN _))) (by simp; omega)).trans (((Hg.out.drewN _).block _ (Array.getElem?_eq_some_iff.1 K1.out).1).trans K1.out))
        have B2 := Lib.hid ((But.of_gr (G1.out.trans (Hg.out.drewN _))).trans hb2)
        have S2 := Lib.hid hS2
        clear hS2 hb2 HT c0 c1 c2 c3 c4 c5 c6 c7 cf
        rw [← Hm.out] at S2 ⊢
        go_wp2_with (refine wpList_store_tok rfl (.tmp 2) (.tmp 35) rfl (t := tok 1 (s.extract at_ m)) rfl rfl K2.out rfl ?_)
        intro W3 hb3 hk3
        have B3 := Lib.hid hb3
        have K3 := Lib.hid hk3
        clear hb3 hk3
        go_wp2_with fail
        refine bodyPost_ret (results_tok rfl rfl K3.out) rfl ?_
        rw [E.out]
        exact ⟨rfl, S2.out.but B3.out (by omega) (by omega), B2.out.late (Nat.le_refl _) B3.out⟩
    · have E : Hid (R = m) := Lib.hid (by rw [hR.out, digR_end (by omega)])
      have hc' : decide (m < s.size) = false := by rw [Hsz.out]; simp; omega
      clear hR HB HD hf hm hc
      go_wp2_with fail
      go_quiet (fail)
      go_wp2_with fail
      refine (HT.out _ (((H.out.gr G1.out).gr Hg.out).gr ((Gr.refl wr).drewN _)) k (by omega)).mono ?_
      rintro e w2 ⟨rfl, hS2, hb2⟩
      have K2 := Lib.hid ((hb2.block _ (Nat.lt_of_lt_of_le (Array.getElem?_eq_some_iff.1 K1.out).1 (Gr.size (Hg.out.drewN _))) (by simp; omega)).trans (((Hg.out.drewN _).block _ (Array.getElem?_eq_some_iff.1 K1.out).1).trans K1.out))
      have B2 := Lib.hid ((But.of_gr (G1.out.trans (Hg.out.drewN _))).trans hb2)
      have S2 := Lib.hid hS2
      clear hS2 hb2 HT c0 c1 c2 c3 c4 c5 c6 c7 cf
      rw [← Hm.out] at S2 ⊢
      go_wp2_with (refine wpList_store_tok rfl (.tmp 2) (.tmp 35) rfl (t := tok 1 (s.extract at_ m)) rfl rfl K2.out rfl ?_)
      intro W3 hb3 hk3
      have B3 := Lib.hid hb3
      have K3 := Lib.hid hk3
      clear hb3 hk3
      go_wp2_with fail
      refine bodyPost_ret (results_tok rfl rfl K3.out) rfl ?_
      rw [E.out]
      exact ⟨rfl, S2.out.but B3.out (by omega) (by omega), B2.out.late (Nat.le_refl _) B3.out⟩
variable {w : World} {P : Nat} {M : GoMap} {s : ByteArray} {at_ en : Nat} {tm : Bool} {tv bv ov : Value}
set_option maxRecDepth 100000 in
set_option maxHeartbeats 1000000 in
theorem sign_m (h : Sc w P M s at_ en tm tv bv ov) (hat : at_ ≤ s.size) (hs : s.size ≤ 140737488351232) (n : Nat) (hn : signN (s.data.toList.drop at_) = n) (h0 : 0 < n) :
    Calls Tryd.prog 46 #[.pointer (some ⟨P, 0, none⟩)] w fun e w' => e = .returned (tok 3 (s.extract at_ (at_ + n))).val ∧ Sc w' P M s (at_ + n) en tm tv bv ov ∧ But P w w' := by
  have H := Lib.hid h
  have HI := Lib.hid isSign_p
  obtain ⟨r, hr⟩ : ∃ r, r = s.extract at_ s.size := ⟨_, rfl⟩
  have hrs : r.size = s.size - at_ := by rw [hr]; simp [ByteArray.size_extract]
  have hrl : r.data.toList = s.data.toList.drop at_ := by rw [hr, dropE]
  have HE : Hid (∀ k : Nat, (r.extract 0 k).data.toList = r.data.toList.take k) := Lib.hid (fun k => by rw [extractE]; simp)
  have hmin : signN (s.data.toList.drop at_) = signGo r.data.toList (min 3 r.size) := by rw [signN, ← hrl, sizeL]
  rw [hmin] at hn
  have HR : Hid (n = signGo r.data.toList (min 3 r.size)) := Lib.hid hn.symm
  have hnr : n ≤ r.size := by have := signGo_le r.data.toList (min 3 r.size); omega
  have HT := Lib.hid (fun (W : World) (hS : Sc W P M s at_ en tm tv bv ov) => take_m hS n (by omega) hs)
  have b0 : (at_ : Int) ≤ (s.size : Int) := by omega
  have hP : P < w.heap.size := h.lt.1
  have hM : M.blk < w.heap.size := h.lt.2
  have Hr := Lib.hid hr
  have Hrs := Lib.hid hrs
  clear h hn hmin hrl hrs
  go_enter Tryd.func46, Tryd.ntmps46
  go_wp2_with fail
  generalize hW : w.alloc (.cells #[.int .i64 0, .int .i64 0, .string ⟨#[]⟩, .string ⟨#[]⟩, .string ⟨#[]⟩, .int .i64 0] 32) = W1
  have G1 : Hid (Gr w W1) := Lib.hid (by rw [← hW]; exact (Gr.refl w).alloc _)
  have K1 : Hid (W1.heap[w.heap.size]? = some (.cells #[.int .i64 0, .int .i64 0, .string ⟨#[]⟩, .string ⟨#[]⟩, .string ⟨#[]⟩, .int .i64 0] 32 (0, 0))) := Lib.hid (by rw [← hW]; exact heap_alloc_new w _)
  clear hW
  obtain ⟨c0, c1, c2, c3, c4, c5, c6, c7, cf⟩ := (H.out.gr G1.out).cells
  go_quiet (fail)
  clear c0 c1 c2 c3 c4 c5 c6 c7 cf
  rw [← hr]
  clear hr
  go_wp2_with fail
  go_loopw [4] (fun sc wr => ∃ k : Nat, sc = .int .i64 (k : Int) ∧ k ≤ r.size ∧ Gr W1 wr ∧ Hid (n = signGo r.data.toList k)) (fun sc _ => nat0 sc)
  case atStart => exact ⟨min 3 r.size, by simp; omega, by omega, (Gr.refl _).drewN _, HR⟩
  case round =>
    obtain ⟨k, rfl, hk, hg, hR⟩ := hrel
    clear HR
    have Hg := Lib.hid hg
    clear hg
    cases k with
    | zero => exfalso; have := hR.out; rw [signGo] at this; omega
    | succ k =>
      have hkb : (k : Int) ≤ 9223372036854775807 := by have := Hrs.out; omega
      have hkc : -9223372036854775808 ≤ (k : Int) := by omega
      have hk1 : (0 : Int) < ((k + 1 : Nat) : Int) := by omega
      have hk2 : ((k + 1 : Nat) : Int) ≤ (r.size : Int) := by omega
      obtain ⟨m, hm⟩ : ∃ m, m = k + 1 := ⟨_, rfl⟩
      have hI := Lib.hid (fun w => HI.out (r.extract 0 (k + 1)) w)
      rw [HE.out] at hI
      by_cases hb : isSignB (r.data.toList.take (k + 1)) = true
      · have hnk : n = k + 1 := by have := hR.out; rw [signGo, if_pos hb] at this; exact this
        rw [hb] at hI
        rw [← hm] at hI hk1 hk2 hnk ⊢
        have Hnk := Lib.hid hnk
        clear hb hR HI HE hnk hm
        go_wp2_with fail
        refine (hI.out _).mono ?_
        rintro e w2 ⟨rfl, rfl⟩
        go_wp2_with fail
        rw [← Hnk.out]
        refine (HT.out _ ((H.out.gr G1.out).gr Hg.out)).mono ?_
        rintro e w2 ⟨rfl, hS2, hb2⟩
        have K2 := Lib.hid ((hb2.block _ (Nat.lt_of_lt_of_le (Array.getElem?_eq_some_iff.1 K1.out).1 (Gr.size Hg.out)) (by simp; omega)).trans ((Hg.out.block _ (Array.getElem?_eq_some_iff.1 K1.out).1).trans K1.out))
        have B2 := Lib.hid ((But.of_gr (G1.out.trans Hg.out)).trans hb2)
        have S2 := Lib.hid hS2
        clear hS2 hb2 HT
        go_wp2_with (refine wpList_store_tok rfl (.tmp 2) (.tmp 28) rfl (t := tok 3 (s.extract at_ (at_ + n))) rfl rfl K2.out rfl ?_)
        intro W3 hb3 hk3
        have B3 := Lib.hid hb3
        have K3 := Lib.hid hk3
        clear hb3 hk3
        go_wp2_with fail
        refine bodyPost_ret (results_tok rfl rfl K3.out) rfl ?_
        exact ⟨rfl, S2.out.but B3.out (by omega) (by omega), B2.out.late (Nat.le_refl _) B3.out⟩
      · have hR2 : Hid (n = signGo r.data.toList k) := Lib.hid (by have := hR.out; rw [signGo, if_neg hb] at this; exact this)
        have hks : ((k + 1 : Nat) : Int) - 1 = (k : Int) := by omega
        rw [show isSignB (r.data.toList.take (k + 1)) = false by simpa using hb] at hI
        rw [← hm] at hI hk1 hk2 hks ⊢
        have Hm := Lib.hid hm
        clear hb hR HI HE hm
        go_wp2_with fail
        refine (hI.out _).mono ?_
        rintro e w2 ⟨rfl, rfl⟩
        go_wp2_with fail
        go_roundw
        case rel => exact ⟨k, rfl, by omega, Hg.out, hR2⟩
        case measure => have := Hm.out; simp only [nat0]; omega
variable {w : World} {P : Nat} {M : GoMap} {s : ByteArray} {at_ en : Nat} {tm : Bool} {tv bv ov : Value}
set_option maxRecDepth 100000 in
set_option maxHeartbeats 1000000 in
theorem variable_no (h : Sc w P M s at_ en tm tv bv ov) (hat : at_ < s.size) (hs : s.size ≤ 140737488351232) (x : UInt8) (hx : s.data.toList[at_]? = some x) (hn : sigilB x.toNat = false) :
    Calls Tryd.prog 41 #[.pointer (some ⟨P, 0, none⟩)] w fun e w' => e = .returned (.tuple #[tok0.val, .bool false]) ∧ Sc w' P M s at_ en tm tv bv ov ∧ But P w w' := by
  have H := Lib.hid h
  have HS := Lib.hid (fun w => sigil_p x.toNat w)
  rw [hn] at HS
  have hL : at_ < s.data.toList.length := by rw [sizeL]; exact hat
  have en_ : s[at_] = x := by rw [byteE s at_ hat hL]; rw [List.getElem?_eq_getElem hL] at hx; exact Option.some.inj hx
  have b0 : (at_ : Int) < (s.size : Int) := by omega
  have b1 : (at_ : Int) + 1 ≤ 9223372036854775807 := by omega
  have b2 : -9223372036854775808 ≤ (at_ : Int) + 1 := by omega
  have b3 : (at_ : Int) + 1 ≤ (s.size : Int) := by omega
  have hP : P < w.heap.size := h.lt.1
  have hM : M.blk < w.heap.size := h.lt.2
  clear h hn hx
  go_enter Tryd.func41, Tryd.ntmps41
  go_wp2_with fail
  generalize hW : w.alloc (.cells #[.int .i64 0, .int .i64 0, .string ⟨#[]⟩, .string ⟨#[]⟩, .string ⟨#[]⟩, .int .i64 0] 32) = W1
  have G1 : Hid (Gr w W1) := Lib.hid (by rw [← hW]; exact (Gr.refl w).alloc _)
  have K1 : Hid (W1.heap[w.heap.size]? = some (.cells #[.int .i64 0, .int .i64 0, .string ⟨#[]⟩, .string ⟨#[]⟩, .string ⟨#[]⟩, .int .i64 0] 32 (0, 0))) := Lib.hid (by rw [← hW]; exact heap_alloc_new w _)
  clear hW
  obtain ⟨c0, c1, c2, c3, c4, c5, c6, c7, cf⟩ := (H.out.gr G1.out).cells
  go_quiet (fail)
  clear c0 c1 c2 c3 c4 c5 c6 c7 cf
  go_wp2_with fail
  refine (HS.out _).mono ?_
  rintro e w2 ⟨rfl, rfl⟩
  go_wp2_with (refine wpList_store_tok rfl (.tmp 2) (.tmp 33) rfl (t := tok0) rfl rfl K1.out rfl ?_)
  intro W3 hb3 hk3
  have B3 := Lib.hid hb3
  have K3 := Lib.hid hk3
  clear hb3 hk3
  go_wp2_with fail
  refine bodyPost_ret (results_tokB rfl rfl K3.out rfl) rfl ?_
  exact ⟨rfl, (H.out.gr (G1.out.drewN _)).but B3.out (by omega) (by omega), (But.of_gr (G1.out.drewN _)).late (Nat.le_refl _) B3.out⟩
set_option maxRecDepth 100000 in
set_option maxHeartbeats 1000000 in
theorem variable_yes (h : Sc w P M s at_ en tm tv bv ov) (hat : at_ + 1 < s.size) (hs : s.size ≤ 140737488351232) (x : UInt8) (hx : s.data.toList[at_]? = some x) (hn : sigilB x.toNat = true) (n : Nat) (hw : wordN (s.data.toList.drop (at_ + 1)) = n) (h0 : 0 < n) (h12 : n ≤ 12) :
    Calls Tryd.prog 41 #[.pointer (some ⟨P, 0, none⟩)] w fun e w' => e = .returned (.tuple #[(tok 2 (s.extract at_ (at_ + (1 + n)))).val, .bool true]) ∧ Sc w' P M s (at_ + (1 + n)) en tm tv bv ov ∧ But P w w' := by
  have H := Lib.hid h
  have HS := Lib.hid (fun w => sigil_p x.toNat w)
  rw [hn] at HS
  have hL : at_ < s.data.toList.length := by rw [sizeL]; omega
  have hat0 : at_ < s.size := by omega
  have en_ : s[at_] = x := by rw [byteE s at_ hat0 hL]; rw [List.getElem?_eq_getElem hL] at hx; exact Option.some.inj hx
  have hln := wordN_le (s.data.toList.drop (at_ + 1))
  rw [hw, List.length_drop, sizeL] at hln
  have HW := Lib.hid (fun w => word_p (s.extract (at_ + 1) s.size) (by simp [ByteArray.size_extract]; omega) w)
  rw [dropE, hw] at HW
  have HT := Lib.hid (fun (W : World) (hS : Sc W P M s at_ en tm tv bv ov) => take_m hS (1 + n) (by omega) hs)
  have hne : ((s.extract (at_ + 1) s.size).toList == []) = false := by
    rw [ByteArray.toList_eq, dropE]; simp; exact hat
  have b0 : (at_ : Int) < (s.size : Int) := by omega
  have b1 : (at_ : Int) + 1 ≤ 9223372036854775807 := by omega
  have b2 : -9223372036854775808 ≤ (at_ : Int) + 1 := by omega
  have b3 : (at_ : Int) + 1 ≤ (s.size : Int) := by omega
  have n0 : ((n : Int) == 0) = false := by simp; omega
  have n1 : ¬ (n : Int) > 12 := by omega
  have n2 : (1 : Int) + (n : Int) ≤ 9223372036854775807 := by omega
  have n3 : -9223372036854775808 ≤ (1 : Int) + (n : Int) := by omega
  obtain ⟨m, hm⟩ : ∃ m, m = 1 + n := ⟨_, rfl⟩
  have hw1 : IntKind.i64.wrap ((1 : Int) + (n : Int)) = (m : Int) := by rw [IntKind.wrap_i64]; omega
  have hw2 : wrap64 ((1 : Int) + (n : Int)) = (m : Int) := by simp only [wrap64]; omega
  rw [← hm] at HT ⊢
  have hP : P < w.heap.size := h.lt.1
  have hM : M.blk < w.heap.size := h.lt.2
  have Hat := Lib.hid hat
  clear h hn hx hw hln h0 hm n2 n3 hat
  obtain ⟨r, hr⟩ : ∃ r, r = s.extract (at_ + 1) s.size := ⟨_, rfl⟩
  rw [← hr] at HW hne
  have Hr := Lib.hid hr
  clear hr
  go_enter Tryd.func41, Tryd.ntmps41
  go_wp2_with fail
  generalize hW : w.alloc (.cells #[.int .i64 0, .int .i64 0, .string ⟨#[]⟩, .string ⟨#[]⟩, .string ⟨#[]⟩, .int .i64 0] 32) = W1
  have G1 : Hid (Gr w W1) := Lib.hid (by rw [← hW]; exact (Gr.refl w).alloc _)
  have K1 : Hid (W1.heap[w.heap.size]? = some (.cells #[.int .i64 0, .int .i64 0, .string ⟨#[]⟩, .string ⟨#[]⟩, .string ⟨#[]⟩, .int .i64 0] 32 (0, 0))) := Lib.hid (by rw [← hW]; exact heap_alloc_new w _)
  clear hW
  obtain ⟨c0, c1, c2, c3, c4, c5, c6, c7, cf⟩ := (H.out.gr G1.out).cells
  go_quiet (fail)
  clear c0 c1 c2 c3 c4 c5 c6 c7 cf
  rw [← Hr.out]
  go_wp2_with fail
  refine (HS.out _).mono ?_
  rintro e w2 ⟨rfl, rfl⟩
  go_wp2_with fail
  refine (HW.out _).mono ?_
  rintro e w2 ⟨rfl, rfl⟩
  clear b1 b2 b3
  go_wp2_with fail
  refine (HT.out _ (H.out.gr (G1.out.drewN _))).mono ?_
  rintro e w2 ⟨rfl, hS2, hb2⟩
  have K2 := Lib.hid ((hb2.block _ (Array.getElem?_eq_some_iff.1 K1.out).1 (by simp; omega)).trans K1.out)
  have B2 := Lib.hid ((But.of_gr (G1.out.drewN _)).trans hb2)
  have S2 := Lib.hid hS2
  clear hS2 hb2 K1 HT HW
  go_wp2_with (refine wpList_store_tok rfl (.tmp 2) (.tmp 71) rfl (t := tok 2 (s.extract at_ (at_ + m))) rfl rfl K2.out rfl ?_)
  intro W3 hb3 hk3
  have B3 := Lib.hid hb3
  have K3 := Lib.hid hk3
  clear hb3 hk3
  go_wp2_with fail
  refine bodyPost_ret (results_tokB rfl rfl K3.out rfl) rfl ?_
  exact ⟨rfl, S2.out.but B3.out (by omega) (by omega), B2.out.late (Nat.le_refl _) B3.out⟩
end Go.Proofs.YthmopindibdhnaaDoor.G
namespace Go.Proofs.YthmopindibdhnaaDoor.G
open Go.RowKit Go.Shelf Go.Maps
/-- the scanner leaves at a place of the source -/
def Bad (s : ByteArray) (e : Ending) : Prop := ∃ q : Nat, q < s.size ∧ e = .panicked [{ v := .iface 59 (.int .i64 (q : Int)), recovered := false }]
variable {w w' : World} {P : Nat} {M : GoMap} {s : ByteArray} {at_ en : Nat} {tm : Bool} {tv bv ov : Value}
set_option maxRecDepth 100000 in
theorem word_bad (h : Sc w P M s at_ en tm tv bv ov) (hat : at_ < s.size) (hn : 12 < wordN (s.data.toList.drop at_)) (hs : s.size ≤ 140737488351232) :
    Calls Tryd.prog 43 #[.pointer (some ⟨P, 0, none⟩)] w fun e w' => Bad s e ∧ But P w w' := by
  obtain ⟨c0, c1, c2, c3, c4, c5, c6, c7, cf⟩ := h.cells
  have H := Lib.hid h
  have HW := Lib.hid (fun w => word_p (s.extract at_ s.size) (by simp [ByteArray.size_extract]; omega) w)
  rw [dropE] at HW
  generalize wordN (s.data.toList.drop at_) = n at *
  have b0 : (at_ : Int) ≤ (s.size : Int) := by omega
  have b1 : (n : Int) > 12 := by omega
  have Hat := Lib.hid hat
  clear h hat hn
  go_enter Tryd.func43, Tryd.ntmps43
  go_wp2_with fail
  generalize hW : w.alloc (.cells #[.int .i64 0, .int .i64 0, .string ⟨#[]⟩, .string ⟨#[]⟩, .string ⟨#[]⟩, .int .i64 0] 32) = W1
  have G1 : Hid (Gr w W1) := Lib.hid (by rw [← hW]; exact (Gr.refl w).alloc _)
  clear hW c0 c1 c2 c3 c4 c5 c6 c7 cf
  obtain ⟨c0, c1, c2, c3, c4, c5, c6, c7, cf⟩ := (H.out.gr G1.out).cells
  go_quiet ((go_at_call 58; exact quiet_at (HW.out _)))
  go_wp2_with fail
  exact ⟨rfl, ⟨at_, Hat.out, rfl⟩, But.of_gr (G1.out.drewN _)⟩
end Go.Proofs.YthmopindibdhnaaDoor.G
