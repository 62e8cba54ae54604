/- The program's Text. -/
import Derived.Test.YtlacfknoanjlpaaDoorCTxt
namespace Go.Proofs.YtlacfknoanjlpaaDoor
open Go.RowKit Go.Shelf
theorem writeL_take_le (l : List Int) (k : Nat) : (writeL (l.take k)).length ≤ (writeL l).length := by
  have e : writeL l = writeL (l.take k) ++ writeL (l.drop k) := by rw [← writeL_app, List.take_append_drop]
  rw [e, List.length_append]; omega
set_option maxRecDepth 100000 in
set_option maxHeartbeats 4000000 in
theorem text_p (v : Value) (l : List Int) (hl : l.length ≤ 140000) (w : World) (hv : IntsIs w v l) : Calls Tryd.prog 17 #[v] w (TxtQ (txtL l) w) := by
  have HP := Lib.hid (contains_any v l hl w hv)
  obtain ⟨ao, cap, rfl, hc⟩ := hv
  cases hall : l.all isCh
  · have HE := Lib.hid (txtL_no hall)
    rw [hall] at HP
    clear hc hall
    go_enter Tryd.func17, Tryd.ntmps17
    go_wp2_with (go_at_call 49; refine HP.out.mono ?_; rintro e w1 ⟨rfl, q, rfl⟩)
    go_ret2
    exact ⟨by rw [HE.out]; rfl, (Gr.refl w).drewN q⟩
  · have HE := Lib.hid (txtL_ok hall)
    have Hc := Lib.hid hc
    have HC : Hid (∀ k (h : k < l.length), isCh l[k] = true) := Lib.hid (fun k h => List.all_eq_true.1 hall _ (List.getElem_mem h))
    have HD : Hid (∀ k (h : k < l.length), writeL (l.take (k + 1)) = writeL (l.take k) ++ oneL l[k]) := Lib.hid (fun k h => by
      rw [List.take_add_one, List.getElem?_eq_getElem h, writeL_app]
      show _ ++ writeL [l[k]] = _
      rw [writeL_cons]; simp [writeL])
    have HL := Lib.hid (writeL_take_le l)
    have HN : Hid (writeL (l.take l.length) = writeL l) := Lib.hid (by rw [List.take_length])
    rw [hall] at HP
    clear hc hall
    generalize writeL l = WR at *
    go_enter Tryd.func17, Tryd.ntmps17
    go_wp2_with (go_at_call 49; refine HP.out.mono ?_; rintro e w1 ⟨rfl, q, rfl⟩)
    go_loopw [11] (fun iv wr => ∃ k : Nat, k ≤ l.length ∧ iv = .int .i64 k ∧ Gr w wr ∧ Bld w.heap.size (writeL (l.take k)) wr ∧ (writeL (l.take k)).length ≤ 4096) (fun iv _ => l.length - (intOf iv).toNat)
    case atStart => exact ⟨0, Nat.zero_le _, rfl, ((Gr.refl w).drewN q).alloc _, bld_new (w.drewN q), by simp [writeL]⟩
    case round =>
      obtain ⟨k, hk, rfl, hg, hbl, hb4⟩ := hrel
      by_cases hlt : k < l.length
      · obtain ⟨b, o, rfl, hb, hcell0⟩ := Hc.out k hlt
        have hcell : wr.cell? ⟨b, o + k, none⟩ = some (.int .i64 l[k]) := by rw [hg.cell hb]; exact hcell0
        have hcc := HC.out k hlt
        have hcb := isCh_true.1 hcc
        have hd := HD.out k hlt
        have HB := Lib.hid (bld_rune hcc hbl (by omega) (Gr.size hg))
        have hll := HL.out (k + 1)
        have Hg := Lib.hid hg
        rw [← hd] at HB
        clear hcell0 hg hbl hd hcc
        generalize l[k] = c at *
        generalize hacc : writeL (l.take (k + 1)) = acc2 at *
        have Hacc := Lib.hid hacc
        clear hacc
        by_cases hbig : 4096 < acc2.length
        · have HE2 : Hid (sizE WR = ([], 3)) := Lib.hid (if_pos (by omega))
          go_wp2_with (first | (go_at_call 51; refine HB.out.mono ?_; rintro e w2 ⟨⟨n, rfl⟩, h2, b2, k2⟩) | (go_at_call 52; refine (bld_len h2).mono ?_; rintro e w3 ⟨rfl, rfl⟩))
          go_ret2
          exact ⟨by rw [HE.out, HE2.out]; rfl, Below.trans Hg.out b2⟩
        · go_wp2_with (first | (go_at_call 51; refine HB.out.mono ?_; rintro e w2 ⟨⟨n, rfl⟩, h2, b2, k2⟩) | (go_at_call 52; refine (bld_len h2).mono ?_; rintro e w3 ⟨rfl, rfl⟩))
          go_roundw
          case rel => exact ⟨k + 1, by omega, by go_num, Below.trans Hg.out b2, by rw [Hacc.out]; exact h2, by rw [Hacc.out]; omega⟩
          case measure => simp [intOf]; omega
      · obtain rfl : k = l.length := by omega
        have HB := Lib.hid (bld_text hbl (Gr.size hg))
        have Hg := Lib.hid hg
        rw [HN.out] at HB
        have hl4 : ¬ 4096 < WR.length := by rw [← HN.out]; omega
        have HE2 : Hid (sizE WR = (WR, 0)) := Lib.hid (if_neg hl4)
        clear hg hbl hb4 hl4
        go_wp2_with (go_at_call 53; refine HB.out.mono ?_; rintro e w3 ⟨rfl, g3⟩)
        go_ret2
        exact ⟨by rw [HE.out, HE2.out]; rfl, Below.trans Hg.out g3⟩
end Go.Proofs.YtlacfknoanjlpaaDoor
