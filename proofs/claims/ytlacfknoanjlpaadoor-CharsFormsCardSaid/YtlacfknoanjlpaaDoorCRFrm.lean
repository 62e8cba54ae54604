/- The reference's smallOf, folds, formed. -/
import Derived.Test.YtlacfknoanjlpaaDoorCRChr
import Derived.Test.YtlacfknoanjlpaaDoorCTit
import Derived.Laws.AppendOwnNone
namespace Go.Proofs.YtlacfknoanjlpaaDoor
open Go.RowKit Go.Shelf
theorem ints_addr {w : World} {l : List Int} {ao : Option Addr} (hl : 0 < l.length) (h : ∀ k (h : k < l.length), ∃ b o, ao = some ⟨b, o, none⟩ ∧ b < w.heap.size ∧ w.cell? ⟨b, o + k, none⟩ = some (.int .i64 l[k])) :
    ∃ b o, ao = some ⟨b, o, none⟩ ∧ b < w.heap.size ∧ ∀ j u, (l.map intV)[j]? = some u → w.cell? ((⟨b, o, none⟩ : Addr).add j) = some u := by
  obtain ⟨b, o, e, hb, _⟩ := h 0 hl
  refine ⟨b, o, e, hb, fun j u hj => ?_⟩
  rw [List.getElem?_map] at hj
  have hjl : j < l.length := by
    rcases Nat.lt_or_ge j l.length with h | h
    · exact h
    · rw [List.getElem?_eq_none h] at hj; cases hj
  obtain ⟨b', o', e', _, hc⟩ := h j hjl
  rw [e] at e'
  injection e' with e'
  injection e' with e1 e2 _
  subst e1 e2
  rw [List.getElem?_eq_getElem hjl] at hj
  rw [WideShapes.add_plain, hc]
  exact hj
theorem ints_one (l : List Int) : ∀ u ∈ l.map intV, u.oneCell' = true := by
  intro u hu
  obtain ⟨x, _, rfl⟩ := List.mem_map.1 hu
  rfl
set_option maxRecDepth 100000 in
set_option maxHeartbeats 4000000 in
theorem smallOf_r (sv : Value) (cs : List Int) (hch : cs.all isCh = true) (hlen : cs.length ≤ 140000) (w : World) (hv : IntsIs w sv cs) : Calls Tryd.prog 104 #[sv] w (PtsPost (cs.map smallC) w) := by
  obtain ⟨ao, cap, rfl, hc⟩ := hv
  have HC : Hid (∀ k (h : k < cs.length), isCh cs[k] = true) := Lib.hid (fun k h => List.all_eq_true.1 hch _ (List.getElem_mem h))
  have HD : Hid (∀ k (h : k < cs.length), (cs.take (k + 1)).map smallC = (cs.take k).map smallC ++ [smallC cs[k]]) := Lib.hid (fun k h => by
    rw [List.take_add_one, List.getElem?_eq_getElem h, List.map_append]; rfl)
  have HN : Hid ((cs.take cs.length).map smallC = cs.map smallC) := Lib.hid (by rw [List.take_length])
  have Hc := Lib.hid hc
  clear hc hch
  obtain ⟨i0, hi, hz0, hz1, hz2⟩ := info_parts infoInt
  generalize cs.map smallC = R at *
  go_enter Tryd.func104, Tryd.ntmps104
  go_wp2_with fail
  go_loopw [3, 4] (fun v iv wr => ∃ k : Nat, k ≤ cs.length ∧ iv = .int .i64 k ∧ OwnI wr w.heap.size v ((cs.take k).map smallC) ∧ Gr w wr) (fun _ iv _ => cs.length - (intOf iv).toNat)
  case atStart => exact ⟨0, Nat.zero_le _, rfl, World.ownsRow_nil _ _ _ _, Gr.refl w⟩
  case round =>
    obtain ⟨k, hk, rfl, hown, hg⟩ := hrel
    have Hown := Lib.hid hown
    obtain ⟨vo, vcap, rfl⟩ := ownsRow_shape hown
    by_cases hlt : k < cs.length
    · obtain ⟨b, o, rfl, hb, hcell0⟩ := Hc.out k hlt
      have hcell : wr.cell? ⟨b, o + k, none⟩ = some (.int .i64 cs[k]) := by rw [hg.cell hb]; exact hcell0
      have hcb := isCh_true.1 (HC.out k hlt)
      have HS := Lib.hid (fun w => small_r cs[k] (by omega) (by omega) w)
      have hd := Lib.hid (HD.out k hlt)
      have Hg := Lib.hid hg
      have Hw := Lib.hid (Gr.size hg)
      have hal : ((cs.take k).map smallC).length ≤ 140000 := by rw [List.length_map, List.length_take]; omega
      clear hcell0 hown hg hcb
      generalize cs[k] = c at *
      generalize (cs.take k).map smallC = acc at *
      generalize smallC c = d at *
      go_wp2_with (first | (go_at_call 105; refine (HS.out _).mono ?_; rintro e w3 ⟨rfl, rfl⟩) | (at_builtin; refine wpList_append_own _ rfl (.tmp 11) (.tmp 17) 25 rfl w.heap.size 3 i0 (.int .i64 0) 1 8 Tryd.underlying25 hi hz0 hz1 hz2 rfl (by decide) _ _ _ rfl (Hown.out.alloc _) ⟨wr.heap.size, 0, none⟩ 1 1 [.int .i64 d] rfl rfl ?c1 ?c2 ?c3 ?c4 ?c5 ?_))
      case c1 =>
        intro j u hj
        match j, hj with
        | 0, hj => simp at hj; subst hj; simp [Addr.add]
      case c2 => intro u hu; simp at hu; subst hu; rfl
      case c3 => unfold maxLen; omega
      case c4 => omega
      case c5 => have := Hw.out; simp; omega
      intro v' w1 hown' hgrow _
      have Hown' := Lib.hid hown'
      have hg1 : Hid (Gr w w1) := Lib.hid (Below.grown (Gr.alloc Hg.out _) hgrow (Nat.le_trans Hw.out (by simp)) (fun k hk => (Hown.out.lt k hk).1))
      clear hown' hgrow
      go_wp2_with fail
      go_roundw
      case rel => exact ⟨k + 1, by omega, by go_num, by
        rw [hd.out]
        show World.ownsRow _ _ _ _ _ (acc ++ [d]).length ((acc ++ [d]).map intV)
        rw [List.length_append, List.map_append]; exact Hown'.out, hg1.out⟩
      case measure => simp [intOf]; omega
    · obtain rfl : k = cs.length := by omega
      have Hg := Lib.hid hg
      clear hown hg
      go_wp2
      go_ret
      refine ⟨_, rfl, ?_, Hg.out⟩
      have := Hown.out
      rw [HN.out] at this ⊢
      exact this
set_option maxRecDepth 100000 in
set_option maxHeartbeats 4000000 in
theorem folds_r (s : ByteArray) (hs : s.size ≤ 140000) (w : World) : Calls Tryd.prog 78 #[.string s] w (PtsPost ((runesL s.data.toList).flatMap foldC) w) := by
  have HR := Lib.hid (fun w => runes_r s hs w)
  have hrl := runesL_len s.data.toList
  rw [sizeL] at hrl
  have hch := runes_ch s.data.toList
  generalize runesL s.data.toList = cs at *
  have HC : Hid (∀ k (h : k < cs.length), isCh cs[k] = true) := Lib.hid (fun k h => List.all_eq_true.1 hch _ (List.getElem_mem h))
  have HD : Hid (∀ k (h : k < cs.length), (cs.take (k + 1)).flatMap foldC = (cs.take k).flatMap foldC ++ foldC cs[k]) := Lib.hid (fun k h => by
    rw [List.take_add_one, List.getElem?_eq_getElem h, List.flatMap_append]; simp)
  have HL : Hid (∀ k, ((cs.take k).flatMap foldC).length ≤ 3 * k) := Lib.hid (fun k => by
    have : ∀ l : List Int, (l.flatMap foldC).length ≤ 3 * l.length := by
      intro l
      induction l with
      | nil => simp
      | cons c l ih => rw [List.flatMap_cons, List.length_append, List.length_cons]; have := foldC_len c; omega
    have h := this (cs.take k)
    rw [List.length_take] at h
    omega)
  have HN : Hid ((cs.take cs.length).flatMap foldC = cs.flatMap foldC) := Lib.hid (by rw [List.take_length])
  clear hch
  obtain ⟨i0, hi, hz0, hz1, hz2⟩ := info_parts infoInt
  generalize cs.flatMap foldC = R at *
  go_enter Tryd.func78, Tryd.ntmps78
  go_wp2_with (go_at_call 45; refine (HR.out _).mono ?_; rintro e w0 ⟨lv, rfl, hl0, g0⟩; have Hl := Lib.hid hl0; obtain ⟨ao, cap, rfl, hc0⟩ := hl0.ints; have Hc := Lib.hid hc0; have G0 := Lib.hid g0; clear hc0 hl0 g0)
  have Hw0 := Lib.hid (Gr.size G0.out)
  go_loopw [3, 5] (fun v iv wr => ∃ k : Nat, k ≤ cs.length ∧ iv = .int .i64 k ∧ OwnI wr w0.heap.size v ((cs.take k).flatMap foldC) ∧ Gr w0 wr) (fun _ iv _ => cs.length - (intOf iv).toNat)
  case atStart => exact ⟨0, Nat.zero_le _, rfl, World.ownsRow_nil _ _ _ _, Gr.refl w0⟩
  case round =>
    obtain ⟨k, hk, rfl, hown, hg⟩ := hrel
    have Hown := Lib.hid hown
    obtain ⟨vo, vcap, rfl⟩ := ownsRow_shape hown
    by_cases hlt : k < cs.length
    · obtain ⟨b, o, rfl, hb, hcell0⟩ := Hc.out k hlt
      have hcell : wr.cell? ⟨b, o + k, none⟩ = some (.int .i64 cs[k]) := by rw [hg.cell hb]; exact hcell0
      have HS := Lib.hid (fun w => fold_r cs[k] (HC.out k hlt) w)
      have hfl := foldC_len cs[k]
      have hfp : 0 < (foldC cs[k]).length := by
        rcases hq : foldC cs[k] with _ | ⟨x, t⟩
        · exfalso
          unfold foldC at hq
          repeat' split at hq
          all_goals cases hq
        · simp
      have hd := Lib.hid (HD.out k hlt)
      have Hg := Lib.hid hg
      have hal := HL.out k
      clear hcell0 hown hg
      generalize cs[k] = c at *
      generalize (cs.take k).flatMap foldC = acc at *
      generalize foldC c = d at *
      go_wp2_with (first | (go_at_call 103; refine (HS.out _).mono ?_; rintro e w3 ⟨xv, rfl, hx, g3⟩; have Hg3 := Lib.hid (Gr.trans Hg.out g3); have Hw := Lib.hid (Gr.size Hg3.out); have Hown3 := Lib.hid (OwnI.gr Hown.out g3); obtain ⟨xo, xcap, rfl, hxc⟩ := hx.ints; obtain ⟨xb, xoff, rfl, hxb, hxcells⟩ := ints_addr hfp hxc; have Hx := Lib.hid hxcells; clear hx hxc hxcells g3) | (at_builtin; refine wpList_append_own _ rfl (.tmp 14) (.tmp 19) 25 rfl w0.heap.size 3 i0 (.int .i64 0) 1 8 Tryd.underlying25 hi hz0 hz1 hz2 rfl (by decide) _ _ _ rfl Hown3.out ⟨xb, xoff, none⟩ d.length xcap (d.map intV) rfl (by simp) Hx.out (ints_one d) ?c3 ?c4 Hw.out ?_))
      case c3 => unfold maxLen; omega
      case c4 => omega
      intro v' w1 hown' hgrow _
      have Hown' := Lib.hid hown'
      have hg1 : Hid (Gr w0 w1) := Lib.hid (Below.grown Hg3.out hgrow Hw.out (fun k hk => (Hown3.out.lt k hk).1))
      clear hown' hgrow
      go_wp2_with fail
      go_roundw
      case rel => exact ⟨k + 1, by omega, by go_num, by
        rw [hd.out]
        show World.ownsRow _ _ _ _ _ (acc ++ d).length ((acc ++ d).map intV)
        rw [List.length_append, List.map_append]; exact Hown'.out, hg1.out⟩
      case measure => simp [intOf]; omega
    · obtain rfl : k = cs.length := by omega
      have Hg := Lib.hid hg
      clear hown hg
      go_wp2
      go_ret
      refine ⟨_, rfl, ?_, Gr.trans G0.out Hg.out⟩
      have := Hown.out
      rw [HN.out] at this ⊢
      exact ⟨this.1, this.2.imp id (fun ⟨g, cp, cur, h0, h1, h2⟩ => ⟨g, cp, cur, h0, Nat.le_trans Hw0.out h1, h2⟩)⟩
end Go.Proofs.YtlacfknoanjlpaaDoor
