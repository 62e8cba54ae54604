/- The reference's formed, for the forms small, capital, fold. -/
import Derived.Test.YtlacfknoanjlpaaDoorCRFrm
namespace Go.Proofs.YtlacfknoanjlpaaDoor
open Go.RowKit Go.Shelf
def stp (m : Int) (k : Nat) (c : Int) : List Int := if m = 1 then capC c else if m = 2 then foldC c else if m = 3 ∧ k = 0 then titC c else [smallC c]
def formG (m : Int) : List Int → Nat → List Int
  | [], _ => []
  | c :: r, k => stp m k c ++ formG m r (k + 1)
theorem stp_len (m : Int) (k : Nat) (c : Int) : (stp m k c).length ≤ 3 := by
  have h1 := capC_len c
  have h2 := foldC_len c
  have h3 := titC_len c
  unfold stp
  split
  · exact h1
  · split
    · exact h2
    · split
      · exact h3
      · simp
theorem titC_ch {c : Int} (h : isCh c = true) : (titC c).all isCh = true := by
  have ha := cap_ch h
  unfold titC
  generalize capC c = k at *
  cases k with
  | nil => rfl
  | cons d t =>
    rw [List.all_cons, Bool.and_eq_true] at ha
    show (d :: t.map smallC).all isCh = true
    rw [List.all_cons, ha.1, all_map (fun c h => small_ch h) ha.2]; rfl
theorem stp_ch (m : Int) (k : Nat) {c : Int} (h : isCh c = true) : (stp m k c).all isCh = true := by
  unfold stp
  split
  · exact cap_ch h
  · split
    · exact fold_ch h
    · split
      · exact titC_ch h
      · rw [List.all_cons, small_ch h]; rfl
theorem formG_len (m : Int) (l : List Int) : ∀ k, (formG m l k).length ≤ 3 * l.length := by
  induction l with
  | nil => intro k; simp [formG]
  | cons c l ih => intro k; rw [formG, List.length_append, List.length_cons]; have := ih (k + 1); have := stp_len m k c; omega
theorem formG_ch (m : Int) {l : List Int} (h : l.all isCh = true) : ∀ k, (formG m l k).all isCh = true := by
  induction l with
  | nil => intro k; rfl
  | cons c l ih =>
    intro k
    rw [List.all_cons, Bool.and_eq_true] at h
    rw [formG, List.all_append, stp_ch m k h.1, ih h.2]; rfl
theorem form0 (l : List Int) : ∀ k, formG 0 l k = l.map smallC := by
  induction l with
  | nil => intro k; rfl
  | cons c l ih => intro k; rw [formG, ih, List.map_cons]; rfl
theorem form1 (l : List Int) : ∀ k, formG 1 l k = l.flatMap capC := by
  induction l with
  | nil => intro k; rfl
  | cons c l ih => intro k; rw [formG, ih, List.flatMap_cons]; rfl
theorem form2 (l : List Int) : ∀ k, formG 2 l k = l.flatMap foldC := by
  induction l with
  | nil => intro k; rfl
  | cons c l ih => intro k; rw [formG, ih, List.flatMap_cons]; rfl
theorem form3' (l : List Int) : ∀ k, k ≠ 0 → formG 3 l k = l.map smallC := by
  induction l with
  | nil => intro k _; rfl
  | cons c l ih =>
    intro k hk
    rw [formG, ih _ (by omega), List.map_cons]
    unfold stp
    rw [if_neg (by decide), if_neg (by decide), if_neg (by rintro ⟨_, h⟩; exact hk h)]; rfl
theorem form3 (l : List Int) : formG 3 l 0 = titleL l := by
  cases l with
  | nil => rfl
  | cons c l =>
    have hne := cap_ne c
    rw [formG, form3' _ _ (by decide)]
    show stp 3 0 c ++ l.map smallC = (match capC c with
      | [] => l.map smallC
      | d :: t => d :: (t.map smallC ++ l.map smallC))
    unfold stp titC
    rw [if_neg (by decide), if_neg (by decide), if_pos ⟨rfl, rfl⟩]
    generalize capC c = q at *
    cases q with
    | nil => exact absurd rfl hne
    | cons d t => rfl
theorem formG_on (m : Int) (cs : List Int) (k : Nat) (h : k < cs.length) : formG m (cs.drop k) k = stp m k cs[k] ++ formG m (cs.drop (k + 1)) (k + 1) := by
  rw [List.drop_eq_getElem_cons h, formG]
theorem OwnI.down {w : World} {a b : Nat} {v : Value} {l : List Int} (h : OwnI w b v l) (hab : a ≤ b) : OwnI w a v l :=
  ⟨h.1, h.2.imp id (fun ⟨g, cp, cur, h0, h1, h2⟩ => ⟨g, cp, cur, h0, Nat.le_trans hab h1, h2⟩)⟩
set_option maxRecDepth 100000 in
theorem formed_bad (s : ByteArray) (hs : s.size ≤ 140000) (m : Int) (r : List UInt8) (h : ¬ chkE s.data.toList = 0) (w : World) : Calls Tryd.prog 66 #[.string s, .int .i64 m] w (TxtPost (ansT s.data.toList r) w) := by
  have HC := Lib.hid (fun w => checked_r s (by omega) w)
  have HE := Lib.hid (ansT_no (r := r) h)
  have hb : (chkE s.data.toList == 0) = false := beq_eq_false_iff_ne.2 h
  clear h
  generalize chkE s.data.toList = E at *
  go_enter Tryd.func66, Tryd.ntmps66
  go_wp2_with (go_at_call 44; refine (HC.out _).mono ?_; rintro e w3 ⟨rfl, rfl⟩)
  go_ret2
  exact ⟨by rw [HE.out]; rfl, Gr.refl w⟩
theorem foldC_pos (c : Int) : 0 < (foldC c).length := by
  rcases hq : foldC c with _ | ⟨x, t⟩
  · exfalso
    unfold foldC at hq
    repeat' split at hq
    all_goals cases hq
  · simp
theorem capC_pos (c : Int) : 0 < (capC c).length := List.length_pos_iff.2 (cap_ne c)
set_option maxRecDepth 100000 in
set_option maxHeartbeats 8000000 in
theorem formed_0 (s : ByteArray) (hs : s.size ≤ 140000) (h : chkE s.data.toList = 0) (w : World) : Calls Tryd.prog 66 #[.string s, .int .i64 0] w (TxtPost (ansT s.data.toList (writeL (formG 0 (runesL s.data.toList) 0))) w) := by
  have HC := Lib.hid (fun w => checked_r s (by omega) w)
  have HR := Lib.hid (fun w => runes_r s hs w)
  have HE := Lib.hid (ansT_ok (r := writeL (formG 0 (runesL s.data.toList) 0)) h)
  have hrl := runesL_len s.data.toList
  rw [sizeL] at hrl
  have hch := runes_ch s.data.toList
  rw [h] at HC
  clear h
  generalize runesL s.data.toList = cs at *
  have hall := formG_ch 0 hch 0
  have hfl := formG_len 0 cs 0
  have HT : Hid (∀ k (h : k < cs.length), isCh cs[k] = true) := Lib.hid (fun k h => List.all_eq_true.1 hch _ (List.getElem_mem h))
  have HS := Lib.hid (fun w => sized_r ⟨(writeL (formG 0 cs 0)).toArray⟩ w)
  rw [show (⟨(writeL (formG 0 cs 0)).toArray⟩ : ByteArray).data.toList = writeL (formG 0 cs 0) by simp] at HS
  have HW := Lib.hid (fun (w : World) (v : Value) (hv : IntsIs w v (formG 0 cs 0)) => write_r v (formG 0 cs 0) hall (by omega) w hv)
  have H0 : Hid (formG 0 cs 0 = [] ++ formG 0 (cs.drop 0) 0) := Lib.hid rfl
  have HN : Hid (∀ k, ¬ k < cs.length → formG 0 (cs.drop k) k = []) := Lib.hid (fun k h => by rw [List.drop_eq_nil_of_le (by omega)]; rfl)
  have HG := Lib.hid (formG_on 0 cs)
  clear hch hall
  obtain ⟨i0, hi, hz0, hz1, hz2⟩ := info_parts infoInt
  generalize hRR : formG 0 cs 0 = R at *
  clear hRR
  generalize writeL R = WR at *
  go_enter Tryd.func66, Tryd.ntmps66
  go_wp2_with (first | (go_at_call 44; refine (HC.out _).mono ?_; rintro e w3 ⟨rfl, rfl⟩) | (go_at_call 45; refine (HR.out _).mono ?_; rintro e w0 ⟨lv, rfl, hl0, g0⟩; obtain ⟨ao, cap, rfl, hc0⟩ := hl0.ints; have Hc := Lib.hid hc0; have G0 := Lib.hid g0; clear hc0 hl0 g0))
  have Hw0 := Lib.hid (Gr.size G0.out)
  go_loopw [8, 9] (fun v iv wr => ∃ (k : Nat) (acc : List Int), k ≤ cs.length ∧ iv = .int .i64 k ∧ OwnI wr w0.heap.size v acc ∧ Gr w0 wr ∧ Hid (R = acc ++ formG 0 (cs.drop k) k)) (fun _ iv _ => cs.length - (intOf iv).toNat)
  case atStart => exact ⟨0, [], Nat.zero_le _, rfl, World.ownsRow_nil _ _ _ _, Gr.refl w0, H0⟩
  case round =>
    obtain ⟨k, acc, hk, rfl, hown, hg, hQ⟩ := hrel
    clear H0
    have Hown := Lib.hid hown
    obtain ⟨vo, vcap, rfl⟩ := ownsRow_shape hown
    have hal : acc.length ≤ 420000 := by
      have := congrArg List.length hQ.out
      rw [List.length_append] at this
      omega
    by_cases hlt : k < cs.length
    · obtain ⟨b, o, rfl, hb, hcell0⟩ := Hc.out k hlt
      have hcell : wr.cell? ⟨b, o + k, none⟩ = some (.int .i64 cs[k]) := by rw [hg.cell hb]; exact hcell0
      have hcc := HT.out k hlt
      have hcb := isCh_true.1 hcc
      have HQ2 : Hid (R = (acc ++ stp 0 k cs[k]) ++ formG 0 (cs.drop (k + 1)) (k + 1)) := Lib.hid (by rw [hQ.out, HG.out k hlt, List.append_assoc])
      rw [show stp 0 k cs[k] = [smallC cs[k]] from rfl] at HQ2
      have HF := Lib.hid (fun w => small_r cs[k] (by omega) (by omega) w)
      have Hg := Lib.hid hg
      have Hw := Lib.hid (Gr.size hg)
      clear hcell0 hown hg hcb hcc hQ
      generalize cs[k] = c at *
      generalize smallC c = d at *
      go_wp2_with (first | (go_at_call 105; refine (HF.out _).mono ?_; rintro e w3 ⟨rfl, rfl⟩) | (at_builtin; refine wpList_append_own _ rfl (.tmp 24) (.tmp 30) 25 rfl w0.heap.size 3 i0 (.int .i64 0) 1 8 Tryd.underlying25 hi hz0 hz1 hz2 rfl (by decide) _ _ _ rfl (Hown.out.alloc _) ⟨wr.heap.size, 0, none⟩ 1 1 [.int .i64 d] rfl rfl ?c1 ?c2 ?c3 ?c4 ?c5 ?_))
      case c1 =>
        intro j u hj
        match j, hj with
        | 0, hj => simp at hj; subst hj; simp [Addr.add]
      case c2 => intro u hu; simp at hu; subst hu; rfl
      case c3 => unfold maxLen; omega
      case c4 => omega
      case c5 => have := Hw.out; simp; omega
      intro v' w1 hown' hgrow _
      have Hown' := Lib.hid hown'
      have hg1 : Hid (Gr w0 w1) := Lib.hid (Below.grown (Gr.alloc Hg.out _) hgrow (Nat.le_trans Hw.out (by simp)) (fun k hk => (Hown.out.lt k hk).1))
      clear hown' hgrow
      go_wp2_with fail
      go_roundw
      case rel => exact ⟨k + 1, acc ++ [d], by omega, by go_num, by
        show World.ownsRow _ _ _ _ _ (acc ++ [d]).length ((acc ++ [d]).map intV)
        rw [List.length_append, List.map_append]; exact Hown'.out, hg1.out, HQ2⟩
      case measure => simp [intOf]; omega
    · have HQ2 : Hid (R = acc) := Lib.hid (by rw [hQ.out, HN.out k hlt, List.append_nil])
      obtain rfl : k = cs.length := by omega
      have HO : Hid (OwnI wr w0.heap.size (.slice vo acc.length vcap) R) := Lib.hid (by rw [HQ2.out]; exact Hown.out)
      have Hg := Lib.hid (Gr.trans G0.out hg)
      have HWW := Lib.hid (HW.out wr _ HO.out.ints)
      clear hown hg hQ hal
      go_wp2_with (first | (go_at_call 56; refine HWW.out.mono ?_; rintro e w3 ⟨rfl, g3⟩) | (go_at_call 55; refine (HS.out _).mono ?_; rintro e w4 ⟨rfl, rfl⟩))
      go_ret2
      exact ⟨by rw [HE.out]; rfl, Gr.trans Hg.out g3⟩
end Go.Proofs.YtlacfknoanjlpaaDoor
