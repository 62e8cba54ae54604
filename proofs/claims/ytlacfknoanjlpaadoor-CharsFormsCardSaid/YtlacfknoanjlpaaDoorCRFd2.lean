/- The reference's formed, for the forms fold. -/
import Derived.Test.YtlacfknoanjlpaaDoorCRFd
namespace Go.Proofs.YtlacfknoanjlpaaDoor
open Go.RowKit Go.Shelf
set_option maxRecDepth 100000 in
set_option maxHeartbeats 8000000 in
theorem formed_2 (s : ByteArray) (hs : s.size ≤ 140000) (h : chkE s.data.toList = 0) (w : World) : Calls Tryd.prog 66 #[.string s, .int .i64 2] w (TxtPost (ansT s.data.toList (writeL (formG 2 (runesL s.data.toList) 0))) w) := by
  have HC := Lib.hid (fun w => checked_r s (by omega) w)
  have HR := Lib.hid (fun w => runes_r s hs w)
  have HE := Lib.hid (ansT_ok (r := writeL (formG 2 (runesL s.data.toList) 0)) h)
  have hrl := runesL_len s.data.toList
  rw [sizeL] at hrl
  have hch := runes_ch s.data.toList
  rw [h] at HC
  clear h
  generalize runesL s.data.toList = cs at *
  have hall := formG_ch 2 hch 0
  have hfl := formG_len 2 cs 0
  have HT : Hid (∀ k (h : k < cs.length), isCh cs[k] = true) := Lib.hid (fun k h => List.all_eq_true.1 hch _ (List.getElem_mem h))
  have HS := Lib.hid (fun w => sized_r ⟨(writeL (formG 2 cs 0)).toArray⟩ w)
  rw [show (⟨(writeL (formG 2 cs 0)).toArray⟩ : ByteArray).data.toList = writeL (formG 2 cs 0) by simp] at HS
  have HW := Lib.hid (fun (w : World) (v : Value) (hv : IntsIs w v (formG 2 cs 0)) => write_r v (formG 2 cs 0) hall (by omega) w hv)
  have H0 : Hid (formG 2 cs 0 = [] ++ formG 2 (cs.drop 0) 0) := Lib.hid rfl
  have HN : Hid (∀ k, ¬ k < cs.length → formG 2 (cs.drop k) k = []) := Lib.hid (fun k h => by rw [List.drop_eq_nil_of_le (by omega)]; rfl)
  have HG := Lib.hid (formG_on 2 cs)
  clear hch hall
  obtain ⟨i0, hi, hz0, hz1, hz2⟩ := info_parts infoInt
  generalize hRR : formG 2 cs 0 = R at *
  clear hRR
  generalize writeL R = WR at *
  go_enter Tryd.func66, Tryd.ntmps66
  go_wp2_with (first | (go_at_call 44; refine (HC.out _).mono ?_; rintro e w3 ⟨rfl, rfl⟩) | (go_at_call 45; refine (HR.out _).mono ?_; rintro e w0 ⟨lv, rfl, hl0, g0⟩; obtain ⟨ao, cap, rfl, hc0⟩ := hl0.ints; have Hc := Lib.hid hc0; have G0 := Lib.hid g0; clear hc0 hl0 g0))
  have Hw0 := Lib.hid (Gr.size G0.out)
  go_loopw [8, 9] (fun v iv wr => ∃ (k : Nat) (acc : List Int), k ≤ cs.length ∧ iv = .int .i64 k ∧ OwnI wr w0.heap.size v acc ∧ Gr w0 wr ∧ Hid (R = acc ++ formG 2 (cs.drop k) k)) (fun _ iv _ => cs.length - (intOf iv).toNat)
  case atStart => exact ⟨0, [], Nat.zero_le _, rfl, World.ownsRow_nil _ _ _ _, Gr.refl w0, H0⟩
  case round =>
    obtain ⟨k, acc, hk, rfl, hown, hg, hQ⟩ := hrel
    clear H0
    have Hown := Lib.hid hown
    obtain ⟨vo, vcap, rfl⟩ := ownsRow_shape hown
    have hal : acc.length ≤ 420000 := by
      have := congrArg List.length hQ.out
      rw [List.length_append] at this
      omega
    by_cases hlt : k < cs.length
    · obtain ⟨b, o, rfl, hb, hcell0⟩ := Hc.out k hlt
      have hcell : wr.cell? ⟨b, o + k, none⟩ = some (.int .i64 cs[k]) := by rw [hg.cell hb]; exact hcell0
      have hcc := HT.out k hlt
      have hcb := isCh_true.1 hcc
      have HQ2 : Hid (R = (acc ++ stp 2 k cs[k]) ++ formG 2 (cs.drop (k + 1)) (k + 1)) := Lib.hid (by rw [hQ.out, HG.out k hlt, List.append_assoc])
      rw [show stp 2 k cs[k] = foldC cs[k] from rfl] at HQ2
      have HF := Lib.hid (fun w => fold_r cs[k] hcc w)
      have hfl1 := foldC_len cs[k]
      have hfp : 0 < (foldC cs[k]).length := foldC_pos cs[k]
      have Hg := Lib.hid hg
      clear hcell0 hown hg hcb hcc hQ
      generalize cs[k] = c at *
      generalize foldC c = d at *
      go_wp2_with (first | (go_at_call 103; refine (HF.out _).mono ?_; rintro e w3 ⟨xv, rfl, hx, g3⟩; have Hg3 := Lib.hid (Gr.trans Hg.out g3); have Hw := Lib.hid (Gr.size Hg3.out); have Hown3 := Lib.hid (OwnI.gr Hown.out g3); obtain ⟨xo, xcap, rfl, hxc⟩ := hx.ints; obtain ⟨xb, xoff, rfl, hxb, hxcells⟩ := ints_addr hfp hxc; have Hx := Lib.hid hxcells; clear hx hxc hxcells g3) | (at_builtin; refine wpList_append_own _ rfl (.tmp 45) (.tmp 50) 25 rfl w0.heap.size 3 i0 (.int .i64 0) 1 8 Tryd.underlying25 hi hz0 hz1 hz2 rfl (by decide) _ _ _ rfl Hown3.out ⟨xb, xoff, none⟩ d.length xcap (d.map intV) rfl (by simp) Hx.out (ints_one d) ?c3 ?c4 Hw.out ?_))
      case c3 => unfold maxLen; omega
      case c4 => omega
      intro v' w1 hown' hgrow _
      have Hown' := Lib.hid hown'
      have hg1 : Hid (Gr w0 w1) := Lib.hid (Below.grown Hg3.out hgrow Hw.out (fun k hk => (Hown3.out.lt k hk).1))
      clear hown' hgrow
      go_wp2_with fail
      go_roundw
      case rel => exact ⟨k + 1, acc ++ d, by omega, by go_num, by
        show World.ownsRow _ _ _ _ _ (acc ++ d).length ((acc ++ d).map intV)
        rw [List.length_append, List.map_append]; exact Hown'.out, hg1.out, HQ2⟩
      case measure => simp [intOf]; omega
    · have HQ2 : Hid (R = acc) := Lib.hid (by rw [hQ.out, HN.out k hlt, List.append_nil])
      obtain rfl : k = cs.length := by omega
      have HO : Hid (OwnI wr w0.heap.size (.slice vo acc.length vcap) R) := Lib.hid (by rw [HQ2.out]; exact Hown.out)
      have Hg := Lib.hid (Gr.trans G0.out hg)
      have HWW := Lib.hid (HW.out wr _ HO.out.ints)
      clear hown hg hQ hal
      go_wp2_with (first | (go_at_call 56; refine HWW.out.mono ?_; rintro e w3 ⟨rfl, g3⟩) | (go_at_call 55; refine (HS.out _).mono ?_; rintro e w4 ⟨rfl, rfl⟩))
      go_ret2
      exact ⟨by rw [HE.out]; rfl, Gr.trans Hg.out g3⟩
end Go.Proofs.YtlacfknoanjlpaaDoor
