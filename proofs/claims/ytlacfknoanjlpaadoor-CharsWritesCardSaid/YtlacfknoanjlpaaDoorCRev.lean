/- Reverse, of the program and of the reference. -/
import Derived.Test.YtlacfknoanjlpaaDoorCTxt2
import Derived.Lib.OwnBridge
namespace Go.Proofs.YtlacfknoanjlpaaDoor
open Go.RowKit Go.Shelf
def revT (l : List UInt8) : List UInt8 × Int := if chkE l = 0 then (writeL (runesL l).reverse, 0) else ([], chkE l)
theorem revT_no {l : List UInt8} (h : ¬ chkE l = 0) : revT l = ([], chkE l) := if_neg h
theorem revT_ok {l : List UInt8} (h : chkE l = 0) : revT l = (writeL (runesL l).reverse, 0) := if_pos h
theorem reverse_own (base : Nat) (v : Value) (l : List Int) (hl : l.length ≤ 140000) (w : World) (h : OwnI w base v l) :
    Calls Tryd.prog 85 #[v] w fun e w' => e = .returned (.tuple #[]) ∧ OwnI w' base v l.reverse ∧ ∀ w0, Below base w0 w → Below base w0 w' := by
  by_cases hv : v = .slice none 0 0
  · subst hv
    have h0 : l = [] := by
      rcases h.2 with ⟨_, h0⟩ | ⟨g, cap, cur, e, _⟩
      · exact List.eq_nil_of_length_eq_zero h0
      · cases e
    subst h0
    exact (Any.slices_Reverse_int_empty Tryd.lays112 none 0 w).mono fun e w' ⟨he, hw⟩ => ⟨he, by rw [hw]; exact h, fun w0 hb => by rw [hw]; exact hb⟩
  · obtain ⟨g, cap, rfl, hb, _, _, _, _, hH⟩ := Lib.holds_of_ownsRow h hv
    exact (Any.slices_Reverse_int Tryd.lays112 g 0 cap l w hH (by omega)).mono fun e w' ⟨he, n, hw⟩ => ⟨he, by
      rw [hw]
      have := Lib.ownsRow_putRow (q := n) (k := l.length) (ys := l.reverse) h (by simp) (Nat.le_refl _)
      rw [List.take_of_length_le (by simp)] at this
      show World.ownsRow _ _ _ _ _ l.reverse.length _
      rw [List.length_reverse]
      exact this, fun w0 hbw => by rw [hw]; exact Lib.below_putRow hbw hb⟩
theorem writeL_rev_len (l : List Int) : (writeL l.reverse).length = (writeL l).length := by
  induction l with
  | nil => rfl
  | cons c l ih => rw [List.reverse_cons, writeL_app, List.length_append, ih, writeL_cons, List.length_append]; simp [writeL]; omega
theorem all_rev {l : List Int} (h : l.all isCh = true) : l.reverse.all isCh = true := by rw [List.all_reverse]; exact h
set_option maxRecDepth 100000 in
set_option maxHeartbeats 2000000 in
theorem reverse_p (s : ByteArray) (w : World) : Calls Tryd.prog 42 #[.string s] w (TxtQ (revT s.data.toList) w) := by
  have HC := Lib.hid (check1 s w _ 9 (0, 0) rfl)
  by_cases h : chkE s.data.toList = 0
  · obtain ⟨h1, h2⟩ := chkE_zero h
    have hwl : (writeL (runesL s.data.toList).reverse).length ≤ 4096 := by rw [writeL_rev_len, write_runes _ h2]; exact h1
    rw [sizeL] at h1
    have HM := Lib.hid (fun w => points_p s (by omega) h2 w)
    have hrl := runesL_len s.data.toList
    rw [sizeL] at hrl
    have hrl4 : (runesL s.data.toList).length ≤ 4096 := by omega
    have hra := all_rev (runes_ch s.data.toList)
    rw [h] at HC
    have HE := Lib.hid (revT_ok h)
    have HX : Hid (txtL (runesL s.data.toList).reverse = (writeL (runesL s.data.toList).reverse, 0)) := Lib.hid (by
      rw [txtL_ok hra]; unfold sizE; rw [if_neg (by omega)])
    clear h h1 h2 hwl hra
    generalize runesL s.data.toList = R at *
    go_enter Tryd.func42, Tryd.ntmps42
    go_wp2_with (first | (go_at_call 47; refine HC.out.mono ?_; rintro e w3 ⟨rfl, g3⟩))
    refine (HM.out _).mono ?_
    rintro e w4 ⟨v, rfl, ho, g4⟩
    have HRV := Lib.hid (reverse_own _ v R (by omega) w4 ho)
    have G4 := Lib.hid g4
    clear ho g4
    go_wp2_with fail
    refine HRV.out.mono ?_
    rintro e w5 ⟨rfl, ho5, hb5⟩
    have HT := Lib.hid (text_p v R.reverse (by rw [List.length_reverse]; omega) w5 ho5.ints)
    have G5 := Lib.hid (hb5 _ G4.out)
    clear ho5 hb5
    go_wp2_with fail
    refine HT.out.mono ?_
    rintro e w6 ⟨rfl, g6⟩
    go_wp2
    go_ret2
    have G5' : Gr w3 w5 := G5.out
    exact ⟨by rw [HE.out, HX.out]; rfl, Gr.trans g3 (Gr.trans G5' g6)⟩
  · have HE := Lib.hid (revT_no h)
    have hb : (chkE s.data.toList == 0) = false := beq_eq_false_iff_ne.2 h
    clear h
    generalize chkE s.data.toList = E at *
    go_enter Tryd.func42, Tryd.ntmps42
    go_wp2_with (go_at_call 47; refine HC.out.mono ?_; rintro e w3 ⟨rfl, g3⟩)
    go_ret2
    exact ⟨by rw [HE.out]; rfl, g3⟩
set_option maxRecDepth 100000 in
set_option maxHeartbeats 800000 in
theorem reverse_r (s : ByteArray) (hs : s.size ≤ 140000) (w : World) : Calls Tryd.prog 41 #[.string s] w (TxtQ (revT s.data.toList) w) := by
  have HCK := Lib.hid (fun w => checked_r s (by omega) w)
  by_cases h : chkE s.data.toList = 0
  · have HR := Lib.hid (fun w => runes_r s hs w)
    have hrl := runesL_len s.data.toList
    rw [sizeL] at hrl
    have hra := all_rev (runes_ch s.data.toList)
    rw [h] at HCK
    have HE := Lib.hid (revT_ok h)
    clear h
    generalize runesL s.data.toList = cs at *
    have HW := Lib.hid (fun (w : World) (v : Value) (hv : IntsIs w v cs.reverse) => write_r v cs.reverse hra (by rw [List.length_reverse]; omega) w hv)
    have HD : Hid (∀ k (h : k < cs.length), (cs.drop k).reverse = (cs.drop (k + 1)).reverse ++ [cs[k]]) := Lib.hid (fun k h => by
      rw [List.drop_eq_getElem_cons h, List.reverse_cons])
    have H0 : Hid ((cs.drop cs.length).reverse = []) := Lib.hid (by rw [List.drop_length]; rfl)
    clear hra
    obtain ⟨i0, hi, hz0, hz1, hz2⟩ := info_parts infoInt
    go_enter Tryd.func41, Tryd.ntmps41
    go_wp2_with (first | (go_at_call 44; refine (HCK.out _).mono ?_; rintro e w3 ⟨rfl, rfl⟩) | (go_at_call 45; refine (HR.out _).mono ?_; rintro e w0 ⟨lv, rfl, hl0, g0⟩; obtain ⟨ao, cap, rfl, hc0⟩ := hl0.ints; have Hc := Lib.hid hc0; have G0 := Lib.hid g0; clear hc0 hl0 g0))
    have Hw0 := Lib.hid (Gr.size G0.out)
    go_loopw [6, 7] (fun v iv wr => ∃ (k : Nat) (z : Int), k ≤ cs.length ∧ z = (k : Int) - 1 ∧ iv = .int .i64 z ∧ OwnI wr w0.heap.size v (cs.drop k).reverse ∧ Gr w0 wr) (fun _ iv _ => (intOf iv + 1).toNat)
    case atStart => exact ⟨cs.length, _, Nat.le_refl _, rfl, rfl, by rw [H0.out]; exact World.ownsRow_nil _ _ _ _, Gr.refl w0⟩
    case round =>
      obtain ⟨k, z, hk, hz, rfl, hown, hg⟩ := hrel
      have Hown := Lib.hid hown
      obtain ⟨vo, vcap, rfl⟩ := ownsRow_shape hown
      cases k with
      | zero =>
        obtain rfl : z = -1 := by omega
        have HO : Hid (IntsIs wr (.slice vo cs.length vcap) cs.reverse) := Lib.hid (by have := Hown.out.ints; rw [List.drop_zero, List.length_reverse] at this; exact this)
        have HWW := Lib.hid (HW.out wr _ HO.out)
        have Hg := Lib.hid (Gr.trans G0.out hg)
        clear hown hg hz
        rw [show (cs.drop 0).reverse.length = cs.length by simp]
        go_wp2_with (go_at_call 56; refine HWW.out.mono ?_; rintro e w3 ⟨rfl, g3⟩)
        go_ret2
        exact ⟨by rw [HE.out]; rfl, Gr.trans Hg.out g3⟩
      | succ k =>
        obtain rfl : z = (k : Int) := by omega
        have hlt : k < cs.length := by omega
        obtain ⟨b, o, rfl, hb, hcell0⟩ := Hc.out k hlt
        have hcell : wr.cell? ⟨b, o + k, none⟩ = some (.int .i64 cs[k]) := by rw [hg.cell hb]; exact hcell0
        have hd := Lib.hid (HD.out k hlt)
        have hal : (cs.drop (k + 1)).reverse.length ≤ 140000 := by rw [List.length_reverse, List.length_drop]; omega
        have Hg := Lib.hid hg
        have Hw := Lib.hid (Gr.size hg)
        clear hcell0 hown hg hz
        generalize cs[k] = d at *
        generalize (cs.drop (k + 1)).reverse = acc at *
        go_wp2_with (at_builtin; refine wpList_append_own _ rfl (.tmp 22) (.tmp 27) 25 rfl w0.heap.size 3 i0 (.int .i64 0) 1 8 Tryd.underlying25 hi hz0 hz1 hz2 rfl (by decide) _ _ _ rfl (Hown.out.alloc _) ⟨wr.heap.size, 0, none⟩ 1 1 [.int .i64 d] rfl rfl ?c1 ?c2 ?c3 ?c4 ?c5 ?_)
        case c1 =>
          intro j u hj
          match j, hj with
          | 0, hj => simp at hj; subst hj; simp [Addr.add]
        case c2 => intro u hu; simp at hu; subst hu; rfl
        case c3 => unfold maxLen; omega
        case c4 => omega
        case c5 => have := Hw.out; simp; omega
        intro v' w1 hown' hgrow _
        have Hown' := Lib.hid hown'
        have hg1 : Hid (Gr w0 w1) := Lib.hid (Below.grown (Gr.alloc Hg.out _) hgrow (Nat.le_trans Hw.out (by simp)) (fun k hk => (Hown.out.lt k hk).1))
        clear hown' hgrow
        go_wp2_with fail
        refine ⟨⟨k, (k : Int) - 1, by omega, rfl, rfl, by
          rw [hd.out]
          show World.ownsRow _ _ _ _ _ (acc ++ [d]).length ((acc ++ [d]).map intV)
          rw [List.length_append, List.map_append]; exact Hown'.out, hg1.out⟩, ?_⟩
        simp [intOf]
  · have HE := Lib.hid (revT_no h)
    have hb : (chkE s.data.toList == 0) = false := beq_eq_false_iff_ne.2 h
    clear h
    generalize chkE s.data.toList = E at *
    go_enter Tryd.func41, Tryd.ntmps41
    go_wp2_with (go_at_call 44; refine (HCK.out _).mono ?_; rintro e w3 ⟨rfl, rfl⟩)
    go_ret2
    exact ⟨by rw [HE.out]; rfl, Gr.refl w⟩
end Go.Proofs.YtlacfknoanjlpaaDoor
