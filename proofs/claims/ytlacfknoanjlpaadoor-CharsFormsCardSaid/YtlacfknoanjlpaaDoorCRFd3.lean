/- The reference's formed, for the forms title. -/
import Derived.Test.YtlacfknoanjlpaaDoorCRFd
namespace Go.Proofs.YtlacfknoanjlpaaDoor
open Go.RowKit Go.Shelf
theorem OwnI.cap {w : World} {base : Nat} {v : Value} {l : List Int} (h : OwnI w base v l) : ∃ ao cap, v = .slice ao l.length cap ∧ l.length ≤ cap ∧ cap ≤ maxLen := by
  rcases h.2 with ⟨rfl, h0⟩ | ⟨g, cap, cur, rfl, _, _, h1, h2, _⟩
  · exact ⟨_, _, by rw [h0], by omega, by unfold maxLen; omega⟩
  · exact ⟨_, _, rfl, h1, h2⟩
set_option maxRecDepth 100000 in
theorem smallOf_nil (ao : Option Addr) (cap : Nat) (w : World) : Calls Tryd.prog 104 #[.slice ao 0 cap] w fun e w' => e = .returned (.slice none 0 0) ∧ w = w' := by
  go_enter Tryd.func104, Tryd.ntmps104
  go_wp2_with fail
  go_loopw [3, 4] (fun v iv wr => v = .slice none 0 0 ∧ iv = .int .i64 0 ∧ w = wr) (fun _ _ _ => 0)
  case atStart => exact ⟨rfl, rfl, rfl⟩
  case round =>
    obtain ⟨rfl, rfl, rfl⟩ := hrel
    go_wp2
    go_ret
    exact ⟨rfl, rfl⟩
set_option maxRecDepth 100000 in
set_option maxHeartbeats 1000000 in
theorem formed_3 (s : ByteArray) (hs : s.size ≤ 140000) (h : chkE s.data.toList = 0) (w : World) : Calls Tryd.prog 66 #[.string s, .int .i64 3] w (TxtPost (ansT s.data.toList (writeL (formG 3 (runesL s.data.toList) 0))) w) := by
  have HC := Lib.hid (fun w => checked_r s (by omega) w)
  have HR := Lib.hid (fun w => runes_r s hs w)
  have HE := Lib.hid (ansT_ok (r := writeL (formG 3 (runesL s.data.toList) 0)) h)
  have hrl := runesL_len s.data.toList
  rw [sizeL] at hrl
  have hch := runes_ch s.data.toList
  rw [h] at HC
  clear h
  generalize runesL s.data.toList = cs at *
  have hall := formG_ch 3 hch 0
  have hfl := formG_len 3 cs 0
  have HT : Hid (∀ k (h : k < cs.length), isCh cs[k] = true) := Lib.hid (fun k h => List.all_eq_true.1 hch _ (List.getElem_mem h))
  have HS := Lib.hid (fun w => sized_r ⟨(writeL (formG 3 cs 0)).toArray⟩ w)
  rw [show (⟨(writeL (formG 3 cs 0)).toArray⟩ : ByteArray).data.toList = writeL (formG 3 cs 0) by simp] at HS
  have HW := Lib.hid (fun (w : World) (v : Value) (hv : IntsIs w v (formG 3 cs 0)) => write_r v (formG 3 cs 0) hall (by omega) w hv)
  have H0 : Hid (formG 3 cs 0 = [] ++ formG 3 (cs.drop 0) 0) := Lib.hid rfl
  have HN : Hid (∀ k, ¬ k < cs.length → formG 3 (cs.drop k) k = []) := Lib.hid (fun k h => by rw [List.drop_eq_nil_of_le (by omega)]; rfl)
  have HG := Lib.hid (formG_on 3 cs)
  clear hch hall
  obtain ⟨i0, hi, hz0, hz1, hz2⟩ := info_parts infoInt
  generalize hRR : formG 3 cs 0 = R at *
  clear hRR
  generalize writeL R = WR at *
  go_enter Tryd.func66, Tryd.ntmps66
  go_wp2_with (first | (go_at_call 44; refine (HC.out _).mono ?_; rintro e w3 ⟨rfl, rfl⟩) | (go_at_call 45; refine (HR.out _).mono ?_; rintro e w0 ⟨lv, rfl, hl0, g0⟩; obtain ⟨ao, cap, rfl, hc0⟩ := hl0.ints; have Hc := Lib.hid hc0; have G0 := Lib.hid g0; clear hc0 hl0 g0))
  have Hw0 := Lib.hid (Gr.size G0.out)
  go_loopw [8, 9] (fun v iv wr => ∃ (k : Nat) (acc : List Int), k ≤ cs.length ∧ iv = .int .i64 k ∧ OwnI wr w0.heap.size v acc ∧ Gr w0 wr ∧ Hid (R = acc ++ formG 3 (cs.drop k) k)) (fun _ iv _ => cs.length - (intOf iv).toNat)
  case atStart => exact ⟨0, [], Nat.zero_le _, rfl, World.ownsRow_nil _ _ _ _, Gr.refl w0, H0⟩
  case round =>
    obtain ⟨k, acc, hk, rfl, hown, hg, hQ⟩ := hrel
    clear H0
    have Hown := Lib.hid hown
    obtain ⟨vo, vcap, rfl⟩ := ownsRow_shape hown
    have hal : acc.length ≤ 420000 := by
      have := congrArg List.length hQ.out
      rw [List.length_append] at this
      omega
    by_cases hlt : k < cs.length
    · obtain ⟨b, o, rfl, hb, hcell0⟩ := Hc.out k hlt
      have hcell : wr.cell? ⟨b, o + k, none⟩ = some (.int .i64 cs[k]) := by rw [hg.cell hb]; exact hcell0
      have hcc := HT.out k hlt
      have hcb := isCh_true.1 hcc
      have HQ2 : Hid (R = (acc ++ stp 3 k cs[k]) ++ formG 3 (cs.drop (k + 1)) (k + 1)) := Lib.hid (by rw [hQ.out, HG.out k hlt, List.append_assoc])
      by_cases hk0 : k = 0
      · subst hk0
        rcases hq : capC cs[0] with _ | ⟨d, t⟩
        · exact absurd hq (cap_ne _)
        have ht : stp 3 0 cs[0] = d :: t.map smallC := by
          show titC cs[0] = _
          unfold titC; rw [hq]
        rw [ht, Nat.zero_add] at HQ2
        have HF := Lib.hid (fun w => capital_r cs[0] hcc w)
        have hca := cap_ch hcc
        have hcl := capC_len cs[0]
        rw [hq] at HF hca hcl
        rw [List.all_cons, Bool.and_eq_true] at hca
        have htl : t.length ≤ 2 := by simp at hcl; omega
        have Hta := Lib.hid hca.2
        have hcell' : wr.cell? ⟨b, o, none⟩ = some (.int .i64 cs[0]) := hcell
        have Hg := Lib.hid hg
        clear hcell0 hown hg hcb hcc hQ hq ht hca hcl hcell
        generalize cs[0] = c at *
        go_wp2_with (first | (go_at_call 102; refine (HF.out _).mono ?_; rintro e w3 ⟨xv, rfl, hx, g3⟩; have Hg3 := Lib.hid (Gr.trans Hg.out g3); have Hw := Lib.hid (Gr.size Hg3.out); have Hown3 := Lib.hid (OwnI.gr Hown.out g3); obtain ⟨xo, xcap, hxe, hxc, hxm⟩ := hx.cap; rw [hxe] at hx; obtain ⟨hxl, hxcc⟩ := hx.ints.sub; obtain ⟨xb, xoff, rfl, hxb, hxcells⟩ := ints_addr (by simp) hxcc; have Hx := Lib.hid hxcells; subst hxe; have Hxlt := Lib.hid (World.ownsRow.lt hx xb rfl).1; have hx0 : w3.cell? ⟨xb, xoff, none⟩ = some (.int .i64 d) := hxcells 0 _ rfl; rw [List.length_cons] at hxc; clear hx hxl hxcc hxcells g3) | (at_builtin; refine wpList_append_own _ rfl (.tmp 63) (.tmp 67) 25 rfl w0.heap.size 3 i0 (.int .i64 0) 1 8 Tryd.underlying25 hi hz0 hz1 hz2 rfl (by decide) _ _ _ rfl (Hown3.out.alloc _) ⟨w3.heap.size, 0, none⟩ 1 1 [.int .i64 d] rfl rfl ?c1 ?c2 ?c3 ?c4 ?c5 ?_))
        case c1 =>
          intro j u hj
          match j, hj with
          | 0, hj => simp at hj; subst hj; simp [Addr.add]
        case c2 => intro u hu; simp at hu; subst hu; rfl
        case c3 => unfold maxLen; omega
        case c4 => omega
        case c5 => have := Hw.out; simp; omega
        intro v' w1 hown' hgrow _
        have Hown' : Hid (OwnI w1 w0.heap.size v' (acc ++ [d])) := Lib.hid (by
          show World.ownsRow _ _ _ _ _ (acc ++ [d]).length ((acc ++ [d]).map intV)
          rw [List.length_append, List.map_append]; exact hown')
        have hg1 : Hid (Gr w0 w1) := Lib.hid (Below.grown (Gr.alloc Hg3.out _) hgrow (Nat.le_trans Hw.out (by simp)) (fun k hk => (Hown3.out.lt k hk).1))
        have hbk : w1.heap[xb]? = w3.heap[xb]? := by
          rw [hgrow.block xb (by simp; omega) (fun e => by have := (Hown.out.lt xb e.symm).2; have := Hxlt.out; omega), Lib.alloc_old w3 _ _ hxb]
        have hxw : xb < w1.heap.size := by have := hgrow.size; simp at this; omega
        have Hxs : Hid (IntsIs w1 (.slice (some ⟨xb, xoff + 1, none⟩) t.length (xcap - 1)) t) := Lib.hid ⟨_, _, rfl, fun j hj => ⟨xb, xoff + 1, rfl, hxw, by
          rw [World.cell?_of_block (a := ⟨xb, xoff + 1 + j, none⟩) hbk]
          have := Hx.out (j + 1) (intV t[j]) (by simp [hj])
          rw [WideShapes.add_plain] at this
          rw [show xoff + 1 + j = xoff + (j + 1) by omega]; exact this⟩⟩
        obtain ⟨vo', vcap', rfl⟩ := ownsRow_shape hown'
        have hw1 := Lib.hid (Gr.size hg1.out)
        clear hown' hgrow hbk hx0
        rcases t with _ | ⟨y, t⟩
        · rw [List.map_nil] at HQ2
          have HSN := Lib.hid (fun (ao : Option Addr) cap w => smallOf_nil ao cap w)
          go_wp2_with (first | (go_at_call 104; refine (HSN.out _ _ _).mono ?_; rintro e w5 ⟨rfl, rfl⟩) | (at_builtin; refine wpList_append_own_none rfl (.tmp 69) (.tmp 72) 25 rfl w0.heap.size 3 i0 1 Tryd.underlying25 hi _ _ _ rfl Hown'.out rfl ?_))
          go_roundw
          case rel => exact ⟨1, acc ++ [d], by omega, by go_num, Hown'.out, hg1.out, HQ2⟩
          case measure => simp [intOf]; omega
        · have hxc2 : 1 < xcap := by simp at hxc; omega
          have HSS := Lib.hid (smallOf_r _ (y :: t) Hta.out (Nat.le_trans htl (by omega)) w1 Hxs.out)
          have hml : ((y :: t).map smallC).length ≤ 2 := by rw [List.length_map]; exact htl
          have hmp : 0 < ((y :: t).map smallC).length := by simp
          generalize (y :: t).map smallC = m at *
          have HQ3 : Hid (R = ((acc ++ [d]) ++ m) ++ formG 3 (cs.drop 1) 1) := Lib.hid (by rw [HQ2.out]; simp only [List.append_assoc, List.cons_append, List.nil_append])
          go_wp2_with (first | (go_at_call 104; refine HSS.out.mono ?_; rintro e w5 ⟨yv, rfl, hy, g5⟩; have Hg5 := Lib.hid (Gr.trans hg1.out g5); have Hw5 := Lib.hid (Gr.size Hg5.out); have Hown5 := Lib.hid (OwnI.gr Hown'.out g5); obtain ⟨yo, ycap, rfl, hyc⟩ := hy.ints; obtain ⟨yb, yoff, rfl, hyb, hycells⟩ := ints_addr hmp hyc; have Hy := Lib.hid hycells; clear hy hyc hycells g5) | (at_builtin; refine wpList_append_own _ rfl (.tmp 69) (.tmp 72) 25 rfl w0.heap.size 3 i0 (.int .i64 0) 1 8 Tryd.underlying25 hi hz0 hz1 hz2 rfl (by decide) _ _ _ rfl Hown5.out ⟨yb, yoff, none⟩ m.length ycap (m.map intV) rfl (by simp) Hy.out (ints_one m) ?d3 ?d4 Hw5.out ?_))
          case d3 => unfold maxLen; simp; omega
          case d4 => simp; omega
          intro v2 w2 hown2 hgrow2 _
          have Hown2 := Lib.hid hown2
          have hg2 : Hid (Gr w0 w2) := Lib.hid (Below.grown Hg5.out hgrow2 Hw5.out (fun k hk => (Hown5.out.lt k hk).1))
          clear hown2 hgrow2
          go_wp2_with fail
          go_roundw
          case rel => exact ⟨1, (acc ++ [d]) ++ m, by omega, by go_num, by
            show World.ownsRow _ _ _ _ _ ((acc ++ [d]) ++ m).length (((acc ++ [d]) ++ m).map intV)
            rw [show ((acc ++ [d]) ++ m).length = acc.length + 1 + m.length by rw [List.length_append, List.length_append]; rfl, show ((acc ++ [d]) ++ m).map intV = acc.map intV ++ intV d :: m.map intV by rw [List.map_append, List.map_append, List.append_assoc]; rfl]
            exact Hown2.out, hg2.out, HQ3⟩
          case measure => simp [intOf]; omega
      · rw [show stp 3 k cs[k] = [smallC cs[k]] from by unfold stp; rw [if_neg (by decide), if_neg (by decide), if_neg (by rintro ⟨_, h⟩; exact hk0 h)]] at HQ2
        have hkb : ((k : Int) == 0) = false := beq_eq_false_iff_ne.2 (by omega)
        have HF := Lib.hid (fun w => small_r cs[k] (by omega) (by omega) w)
        have Hg := Lib.hid hg
        have Hw := Lib.hid (Gr.size hg)
        clear hcell0 hown hg hcb hcc hQ
        generalize cs[k] = c at *
        generalize smallC c = d at *
        go_wp2_with (first | (go_at_call 105; refine (HF.out _).mono ?_; rintro e w3 ⟨rfl, rfl⟩) | (at_builtin; refine wpList_append_own _ rfl (.tmp 24) (.tmp 30) 25 rfl w0.heap.size 3 i0 (.int .i64 0) 1 8 Tryd.underlying25 hi hz0 hz1 hz2 rfl (by decide) _ _ _ rfl (Hown.out.alloc _) ⟨wr.heap.size, 0, none⟩ 1 1 [.int .i64 d] rfl rfl ?c1 ?c2 ?c3 ?c4 ?c5 ?_))
        case c1 =>
          intro j u hj
          match j, hj with
          | 0, hj => simp at hj; subst hj; simp [Addr.add]
        case c2 => intro u hu; simp at hu; subst hu; rfl
        case c3 => unfold maxLen; omega
        case c4 => omega
        case c5 => have := Hw.out; simp; omega
        intro v' w1 hown' hgrow _
        have Hown' := Lib.hid hown'
        have hg1 : Hid (Gr w0 w1) := Lib.hid (Below.grown (Gr.alloc Hg.out _) hgrow (Nat.le_trans Hw.out (by simp)) (fun k hk => (Hown.out.lt k hk).1))
        clear hown' hgrow
        go_wp2_with fail
        go_roundw
        case rel => exact ⟨k + 1, acc ++ [d], by omega, by go_num, by
          show World.ownsRow _ _ _ _ _ (acc ++ [d]).length ((acc ++ [d]).map intV)
          rw [List.length_append, List.map_append]; exact Hown'.out, hg1.out, HQ2⟩
        case measure => simp [intOf]; omega
    · have HQ2 : Hid (R = acc) := Lib.hid (by rw [hQ.out, HN.out k hlt, List.append_nil])
      obtain rfl : k = cs.length := by omega
      have HO : Hid (OwnI wr w0.heap.size (.slice vo acc.length vcap) R) := Lib.hid (by rw [HQ2.out]; exact Hown.out)
      have Hg := Lib.hid (Gr.trans G0.out hg)
      have HWW := Lib.hid (HW.out wr _ HO.out.ints)
      clear hown hg hQ hal
      go_wp2_with (first | (go_at_call 56; refine HWW.out.mono ?_; rintro e w3 ⟨rfl, g3⟩) | (go_at_call 55; refine (HS.out _).mono ?_; rintro e w4 ⟨rfl, rfl⟩))
      go_ret2
      exact ⟨by rw [HE.out]; rfl, Gr.trans Hg.out g3⟩
end Go.Proofs.YtlacfknoanjlpaaDoor
