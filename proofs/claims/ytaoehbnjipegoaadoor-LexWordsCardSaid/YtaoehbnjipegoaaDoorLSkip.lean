/- Blanks before a token. -/
import Derived.Test.YtaoehbnjipegoaaDoorLRead
namespace Go.Proofs.YtaoehbnjipegoaaDoor
open Go.RowKit Go.Shelf
variable {w : World} {P M : Nat} {s : ByteArray} {at_ en : Nat} {tm : Bool} {tv bv ov : Value}
set_option maxRecDepth 100000 in
set_option maxHeartbeats 1000000 in
theorem skip_p (h : Sc w P M s at_ en tm tv bv ov) (hs : s.size ≤ 140737488351232) (b : Nat) (hab : at_ ≤ b) (hb : b ≤ s.data.toList.length) (hbl : ∀ n (_ : at_ ≤ n) (_ : n < b) (h : n < s.data.toList.length), blkB (s.data.toList[n].toNat : Int) = true) (hst : ∀ (h : b < s.data.toList.length), blkB (s.data.toList[b].toNat : Int) = false ∧ s.data.toList[b] ≠ 35) :
    Calls Tryd.prog 44 #[.pointer (some ⟨P, 0, none⟩)] w fun e w' => e = .returned (.bool (decide (b < s.data.toList.length))) ∧ Sc w' P M s b en tm tv bv ov ∧ But P w w' := by
  have H := Lib.hid h
  obtain ⟨l, hl⟩ : ∃ l, l = s.data.toList := ⟨_, rfl⟩
  have hsz : s.size = l.length := by rw [hl, ← sizeL]
  have HB := Lib.hid (fun n (h : n < s.size) (h' : n < l.length) => (show s[n] = l[n] by subst hl; exact byteE s n h h'))
  have HST := Lib.hid (fun (W : World) (k : Nat) (hk : k ≤ 140737488351232) (hS : Sc W P M s k en tm tv bv ov) => step_p hS hk)
  have HK := Lib.hid (fun x w => blk_p x w)
  rw [← hl] at hb ⊢
  have HL : Hid (∀ n (_ : at_ ≤ n) (_ : n < b) (h : n < l.length), blkB (l[n].toNat : Int) = true) := Lib.hid (by subst hl; exact hbl)
  have HT : Hid (∀ (h : b < l.length), blkB (l[b].toNat : Int) = false ∧ l[b] ≠ 35) := Lib.hid (by subst hl; exact hst)
  have Hsz := Lib.hid hsz
  have Hb := Lib.hid hb
  have HR : Hid (decide (b < l.length) = decide (b < l.length)) := Lib.hid rfl
  generalize hRR : decide (b < l.length) = R at *
  have HR2 : Hid (R = decide (b < l.length)) := Lib.hid hRR.symm
  clear h hl hsz hbl hst hb HR hRR
  go_enter Tryd.func44, Tryd.ntmps44
  go_wp2_with fail
  go_loopw [3] (fun _ wr => ∃ n : Nat, at_ ≤ n ∧ n ≤ b ∧ Sc wr P M s n en tm tv bv ov ∧ But P w wr) (fun _ wr => atLeft s.size P wr)
  case atStart => exact ⟨at_, Nat.le_refl _, hab, H.out, But.refl P w⟩
  case round =>
    obtain ⟨n, han, hnb, hS, hBu⟩ := hrel
    have S := Lib.hid hS
    have Bu := Lib.hid hBu
    clear hS hBu
    obtain ⟨c0, c1, c2, c3, c4, c5, c6, c7, cf⟩ := S.out.cells
    have C1 := Lib.hid c1
    have Hab := Lib.hid hab
    have Han := Lib.hid han
    have Hnb := Lib.hid hnb
    by_cases hc : n < l.length
    · have hsn : n < s.size := by rw [Hsz.out]; exact hc
      have hc' : (n : Int) < (s.size : Int) := by omega
      have ex := HB.out n hsn hc
      have hk : n ≤ 140737488351232 := by omega
      by_cases hb1 : n < b
      · have eb := HL.out n han hb1 hc
        have Hb1 := Lib.hid hb1
        have Hk := Lib.hid hk
        have Hsn := Lib.hid hsn
        generalize l[n] = x at *
        clear hab han hnb hb1 hk HL HT HB hc
        go_wp2_with fail
        go_quiet (fail)
        go_wp2_with fail
        go_quiet (fail)
        go_wp2_with fail
        refine (HK.out _ _).mono ?_
        rintro e w2 ⟨rfl, rfl⟩
        go_wp2_with fail
        refine (HST.out _ n Hk.out (S.out.gr ((Gr.refl _).drewN _))).mono ?_
        rintro e w2 ⟨rfl, hS2, hb2⟩
        have S2 := Lib.hid hS2
        have Bu2 := Lib.hid hb2
        clear hS2 hb2
        go_wp2_with fail
        go_roundw
        case rel => have := Han.out; have := Hb1.out; exact ⟨n + 1, by omega, by omega, S2.out, (Bu.out.trans (But.of_gr ((Gr.refl _).drewN _))).trans Bu2.out⟩
        case measure =>
          have e1 := C1.out
          have e2 := S2.out.cells.2.1
          have := Hsn.out
          simp only [atLeft, e1, e2]
          omega
      · obtain rfl : n = b := by omega
        obtain ⟨t0, t1⟩ := HT.out hc
        have t2 : ((l[n].toNat : Int) == 35) = false := by
          simp only [beq_eq_false_iff_ne, ne_eq]
          intro h
          exact t1 (UInt8.toNat_inj.1 (by simpa using Int.ofNat.inj h))
        have hR : decide (n < l.length) = true := by simpa using hc
        have E : Hid (R = true) := Lib.hid (by rw [HR2.out, hR])
        generalize l[n] = x at *
        clear hab han hnb hb1 hk HL HT HB hc hR t1 HR2 Hb Hab Han Hnb
        go_wp2_with fail
        go_quiet (fail)
        go_wp2_with fail
        go_quiet (fail)
        go_wp2_with fail
        refine (HK.out _ _).mono ?_
        rintro e w2 ⟨rfl, rfl⟩
        go_wp2_with fail
        go_ret
        rw [E.out]
        exact ⟨rfl, S.out.gr ((Gr.refl _).drewN _), Bu.out.trans (But.of_gr ((Gr.refl _).drewN _))⟩
    · have hnl : n = l.length := by have := Hb.out; omega
      have hbl : b = n := by have := Hb.out; omega
      have hR : decide (b < l.length) = false := by simp; omega
      have g1 : decide (n < s.size) = false := by rw [Hsz.out]; simp; omega
      have g2 : decide ((n : Int) < (s.size : Int)) = false := by rw [Hsz.out]; simp; omega
      have E : Hid (R = false) := Lib.hid (by rw [HR2.out, hR])
      subst hbl
      clear hnl hR HR2 hc hab han hnb HL HT HB Hb Hab Han Hnb
      go_wp2_with fail
      go_quiet (fail)
      go_wp2_with fail
      go_ret
      rw [E.out]
      exact ⟨rfl, S.out.gr ((Gr.refl _).drewN _), Bu.out.trans (But.of_gr ((Gr.refl _).drewN _))⟩
end Go.Proofs.YtaoehbnjipegoaaDoor
