/- The reference's stands, Index, Last. -/
import Derived.Test.YtlacfknoanjlpaaDoorCLSub
import Derived.Test.YtlacfknoanjlpaaDoorCFind2
namespace Go.Proofs.YtlacfknoanjlpaaDoor
open Go.RowKit Go.Shelf
theorem pre_dec (m l : List Int) (k : Nat) : m.isPrefixOf (l.drop k) = decide ((l.take (k + m.length)).drop k = m) := by
  rw [Bool.eq_iff_iff, List.isPrefixOf_iff_prefix, decide_eq_true_iff, List.drop_take, List.prefix_iff_eq_take, Nat.add_sub_cancel_left]
  exact eq_comm
theorem pre_no {m l : List Int} {k : Nat} (h : ¬ k + m.length ≤ l.length) (hk : k ≤ l.length) : m.isPrefixOf (l.drop k) = false := by
  cases hp : m.isPrefixOf (l.drop k)
  · rfl
  · have := (List.isPrefixOf_iff_prefix.1 hp).length_le
    rw [List.length_drop] at this
    omega
set_option maxRecDepth 100000 in
set_option maxHeartbeats 400000 in
theorem stands_r (base : Nat) (lv mv : Value) (l m : List Int) (k : Nat) (hk : k ≤ l.length) (hbd : l.length ≤ 140000) (hmb : m.length ≤ 140000) (w : World) (hl : OwnI w base lv l) (hm : IntsIs w mv m) :
    Calls Tryd.prog 82 #[lv, mv, .int .i64 k] w fun e w' => e = .returned (.bool (m.isPrefixOf (l.drop k))) ∧ Gr w w' := by
  obtain ⟨lo, lcap, rfl, hcap, _⟩ := hl.cap'
  have hm0 := hm
  obtain ⟨mo, mcap, rfl, _⟩ := hm0
  by_cases h : k + m.length ≤ l.length
  · by_cases h0 : m.length = 0
    · have hmn : m = [] := List.eq_nil_of_length_eq_zero h0
      subst hmn
      have HE : Hid (([] : List Int).isPrefixOf (l.drop k) = true) := Lib.hid (by cases l.drop k <;> rfl)
      have HS := Lib.hid (fun (v : Value) (hv : IntsIs w v []) => same_r v _ [] [] (by simp) w hv hm)
      rw [show decide (([] : List Int) = []) = true by decide] at HS
      clear hm hl
      go_enter Tryd.func82, Tryd.ntmps82
      go_wp2_with (go_at_call 16; refine (HS.out _ (ints_empty (by omega))).mono ?_; rintro e w3 ⟨rfl, g3⟩)
      all_goals
        go_ret
        exact ⟨by first | (rw [HE.out]; rfl) | simp, g3⟩
    · have HE := Lib.hid (pre_dec m l k)
      have hx := hl.ints.sub.2
      obtain ⟨b, o, rfl, _⟩ := hx 0 (by omega)
      have hFc : k < lcap := by omega
      have HS := Lib.hid (same_r _ _ _ m (by rw [List.length_drop, List.length_take]; omega) w (ints_cut (cap := lcap) hx k (k + m.length) (by omega) h) hm)
      rw [Nat.add_sub_cancel_left] at HS
      generalize decide ((l.take (k + m.length)).drop k = m) = Q at *
      clear hx hl hm
      go_enter Tryd.func82, Tryd.ntmps82
      go_wp2_with fail
      refine HS.out.mono ?_
      rintro e w3 ⟨rfl, g3⟩
      go_wp2
      go_ret
      exact ⟨by rw [HE.out]; rfl, g3⟩
  · have HE := Lib.hid (pre_no h hk)
    clear hm hl
    go_enter Tryd.func82, Tryd.ntmps82
    go_wp2
    go_ret
    exact ⟨by rw [HE.out]; rfl, Gr.refl w⟩
/-- the plain answers of Index and Last -/
def k0I (W : Nat) (f : Int) : Nat := (min (max f 0) (W : Int)).toNat
def fndT (l m : List UInt8) (f : Int) : Int × Int := if chk2 l m = 0 then (fstL (runesL m) (runesL l) ((runesL l).length + 1 - k0I (runesL l).length f) (k0I (runesL l).length f), 0) else (0, chk2 l m)
def lasT (l m : List UInt8) (f : Int) : Int × Int := if chk2 l m = 0 then (if f < 0 then -1 else lstL (runesL m) (runesL l) (k0I (runesL l).length f), 0) else (0, chk2 l m)
theorem fndT_no {l m : List UInt8} {f : Int} (h : ¬ chk2 l m = 0) : fndT l m f = (0, chk2 l m) := if_neg h
theorem fndT_ok {l m : List UInt8} {f : Int} (h : chk2 l m = 0) : fndT l m f = (fstL (runesL m) (runesL l) ((runesL l).length + 1 - k0I (runesL l).length f) (k0I (runesL l).length f), 0) := if_pos h
theorem lasT_no {l m : List UInt8} {f : Int} (h : ¬ chk2 l m = 0) : lasT l m f = (0, chk2 l m) := if_neg h
theorem lasT_ok {l m : List UInt8} {f : Int} (h : chk2 l m = 0) : lasT l m f = (if f < 0 then -1 else lstL (runesL m) (runesL l) (k0I (runesL l).length f), 0) := if_pos h
set_option maxRecDepth 100000 in
set_option maxHeartbeats 800000 in
theorem index_r (s t : ByteArray) (f : Int) (hs : s.size ≤ 140000) (ht : t.size ≤ 140000) (w : World) : Calls Tryd.prog 37 #[.string s, .string t, .int .i64 f] w (IntQ (fndT s.data.toList t.data.toList f) w) := by
  have HC := Lib.hid (fun w => both_r s t (by omega) (by omega) w)
  by_cases h : chk2 s.data.toList t.data.toList = 0
  · have HS := Lib.hid (fun w => runes_r s hs w)
    have HT := Lib.hid (fun w => runes_r t ht w)
    have HE := Lib.hid (fndT_ok (f := f) h)
    have h1 := runesL_len s.data.toList
    have h2 := runesL_len t.data.toList
    rw [sizeL] at h1 h2
    rw [h] at HC
    clear h
    generalize runesL s.data.toList = cs at *
    generalize runesL t.data.toList = m at *
    have hk0 : min (max f 0) (cs.length : Int) = ((k0I cs.length f : Nat) : Int) := by unfold k0I; omega
    have hk1 : k0I cs.length f ≤ cs.length := by unfold k0I; omega
    generalize k0I cs.length f = K at *
    have Hk := Lib.hid hk0
    clear hk0
    generalize hQ : fstL m cs (cs.length + 1 - K) K = Q at *
    have H0 : Hid (Q = fstL m cs (cs.length + 1 - K) K) := Lib.hid hQ.symm
    clear hQ
    go_enter Tryd.func37, Tryd.ntmps37
    go_wp2_with fail
    refine (HC.out _).mono ?_
    rintro e w1 ⟨rfl, rfl⟩
    go_wp2_with fail
    refine (HS.out _).mono ?_
    rintro e w2 ⟨v2, rfl, o2, g2⟩
    have O2 := Lib.hid o2
    clear o2
    go_wp2_with fail
    refine (HT.out _).mono ?_
    rintro e w3 ⟨v3, rfl, o3, g3⟩
    have O2' := Lib.hid (O2.out.gr g3)
    have I3 := Lib.hid o3.ints
    have G0 := Lib.hid (Gr.trans g2 g3)
    obtain ⟨ao, cap, rfl, _⟩ := O2.out.ints
    clear o3
    go_wp2_with fail
    rw [Hk.out]
    go_loopw [11] (fun iv wr => ∃ k : Nat, k ≤ cs.length + 1 ∧ iv = .int .i64 k ∧ Gr w3 wr ∧ Hid (Q = fstL m cs (cs.length + 1 - k) k)) (fun iv _ => cs.length + 1 - (intOf iv).toNat)
    case atStart => exact ⟨K, by omega, rfl, Gr.refl w3, H0⟩
    case round =>
      obtain ⟨k, hk, rfl, hg, hF⟩ := hrel
      clear H0
      by_cases hlt : k ≤ cs.length
      · have hst := stands_r _ _ v3 cs m k hlt (by omega) (by omega) wr (O2'.out.gr hg) (I3.out.gr hg)
        have hn : cs.length + 1 - k = (cs.length + 1 - (k + 1)) + 1 := by omega
        have hF' := hF.out
        rw [hn, fstL] at hF'
        have Hg := Lib.hid hg
        cases hp : m.isPrefixOf (cs.drop k)
        · rw [hp] at hst hF'
          have HF2 : Hid (Q = fstL m cs (cs.length + 1 - (k + 1)) (k + 1)) := Lib.hid hF'
          have HST := Lib.hid hst
          clear hst hF' hF hp hn hg
          go_wp2_with fail
          refine HST.out.mono ?_
          rintro e w4 ⟨rfl, g4⟩
          go_wp2_with fail
          go_roundw
          case rel => exact ⟨k + 1, by omega, by go_num, Gr.trans Hg.out g4, HF2⟩
          case measure => simp [intOf]; omega
        · rw [hp] at hst hF'
          have HF2 : Hid (Q = (k : Int)) := Lib.hid hF'
          have HST := Lib.hid hst
          clear hst hF' hF hp hn hg
          go_wp2_with fail
          refine HST.out.mono ?_
          rintro e w4 ⟨rfl, g4⟩
          go_wp2
          go_ret2
          exact ⟨by rw [HE.out, HF2.out]; rfl, Gr.trans G0.out (Gr.trans Hg.out g4)⟩
      · have HF2 : Hid (Q = -1) := Lib.hid (by rw [hF.out, show cs.length + 1 - k = 0 by omega]; rfl)
        have Hg := Lib.hid hg
        clear hF hg
        go_wp2
        go_ret2
        exact ⟨by rw [HE.out, HF2.out]; rfl, Gr.trans G0.out Hg.out⟩
  · have HE := Lib.hid (fndT_no (f := f) h)
    have hb : (chk2 s.data.toList t.data.toList == 0) = false := beq_eq_false_iff_ne.2 h
    clear h
    generalize chk2 s.data.toList t.data.toList = E at *
    go_enter Tryd.func37, Tryd.ntmps37
    go_wp2_with fail
    refine (HC.out _).mono ?_
    rintro e w1 ⟨rfl, rfl⟩
    go_wp2
    go_ret2
    exact ⟨by rw [HE.out]; rfl, Gr.refl w⟩
set_option maxRecDepth 100000 in
set_option maxHeartbeats 800000 in
theorem last_r (s t : ByteArray) (f : Int) (hs : s.size ≤ 140000) (ht : t.size ≤ 140000) (hf : -9223372036854775808 ≤ f) (w : World) : Calls Tryd.prog 38 #[.string s, .string t, .int .i64 f] w (IntQ (lasT s.data.toList t.data.toList f) w) := by
  have HC := Lib.hid (fun w => both_r s t (by omega) (by omega) w)
  by_cases h : chk2 s.data.toList t.data.toList = 0
  · have HS := Lib.hid (fun w => runes_r s hs w)
    have HT := Lib.hid (fun w => runes_r t ht w)
    have HE := Lib.hid (lasT_ok (f := f) h)
    have h1 := runesL_len s.data.toList
    have h2 := runesL_len t.data.toList
    rw [sizeL] at h1 h2
    rw [h] at HC
    clear h
    generalize runesL s.data.toList = cs at *
    generalize runesL t.data.toList = m at *
    have hz : ∃ z : Int, min f (cs.length : Int) = z ∧ z ≤ cs.length ∧ ((f < 0 ∧ z < 0) ∨ (¬ f < 0 ∧ z = ((k0I cs.length f : Nat) : Int))) := ⟨_, rfl, by omega, by unfold k0I; omega⟩
    obtain ⟨z, hz0, hz1, hz2⟩ := hz
    have Hz := Lib.hid hz0
    clear hz0
    have H0 : Hid ((if f < 0 then -1 else lstL m cs (k0I cs.length f)) = if z < 0 then -1 else lstL m cs z.toNat) := Lib.hid (by
      rcases hz2 with ⟨a, b⟩ | ⟨a, b⟩
      · rw [if_pos a, if_pos b]
      · rw [if_neg a, if_neg (by omega), b, Int.toNat_natCast])
    clear hz2
    generalize (if f < 0 then (-1 : Int) else lstL m cs (k0I cs.length f)) = Q at *
    go_enter Tryd.func38, Tryd.ntmps38
    go_wp2_with fail
    refine (HC.out _).mono ?_
    rintro e w1 ⟨rfl, rfl⟩
    go_wp2_with fail
    refine (HS.out _).mono ?_
    rintro e w2 ⟨v2, rfl, o2, g2⟩
    have O2 := Lib.hid o2
    clear o2
    go_wp2_with fail
    refine (HT.out _).mono ?_
    rintro e w3 ⟨v3, rfl, o3, g3⟩
    have O2' := Lib.hid (O2.out.gr g3)
    have I3 := Lib.hid o3.ints
    have G0 := Lib.hid (Gr.trans g2 g3)
    obtain ⟨ao, cap, rfl, _⟩ := O2.out.ints
    clear o3
    go_wp2_with fail
    rw [Hz.out]
    go_loopw [11] (fun iv wr => ∃ z : Int, -9223372036854775808 ≤ z ∧ z ≤ cs.length ∧ iv = .int .i64 z ∧ Gr w3 wr ∧ Hid (Q = if z < 0 then -1 else lstL m cs z.toNat)) (fun iv _ => (intOf iv + 1).toNat)
    case atStart => exact ⟨z, by have := Hz.out; omega, hz1, rfl, Gr.refl w3, H0⟩
    case round =>
      obtain ⟨z, hzl, hzc, rfl, hg, hF⟩ := hrel
      clear H0
      have Hg := Lib.hid hg
      by_cases hneg : z < 0
      · have HF2 : Hid (Q = -1) := Lib.hid (by rw [hF.out, if_pos hneg])
        clear hF hg
        go_wp2
        go_ret2
        exact ⟨by rw [HE.out, HF2.out]; rfl, Gr.trans G0.out Hg.out⟩
      · obtain ⟨k, rfl⟩ : ∃ k : Nat, z = (k : Int) := ⟨z.toNat, by omega⟩
        have hlt : k ≤ cs.length := by omega
        have hst := stands_r _ _ v3 cs m k hlt (by omega) (by omega) wr (O2'.out.gr hg) (I3.out.gr hg)
        have hF' := hF.out
        rw [if_neg hneg, Int.toNat_natCast] at hF'
        cases hp : m.isPrefixOf (cs.drop k)
        · rw [hp] at hst
          have HF2 : Hid (Q = if ((k : Int) - 1) < 0 then -1 else lstL m cs ((k : Int) - 1).toNat) := Lib.hid (by
            rw [hF']
            cases k with
            | zero =>
              rw [lstL, if_neg (by rw [show cs = cs.drop 0 from rfl, hp]; decide), if_pos (by decide)]
            | succ k =>
              rw [lstL, if_neg (by rw [hp]; decide), if_neg (by omega), show (((k + 1 : Nat) : Int) - 1).toNat = k by omega])
          have HST := Lib.hid hst
          clear hst hF' hF hp hg hneg
          go_wp2_with fail
          refine HST.out.mono ?_
          rintro e w4 ⟨rfl, g4⟩
          go_wp2_with fail
          go_roundw
          case rel => exact ⟨(k : Int) - 1, by omega, by omega, rfl, Gr.trans Hg.out g4, HF2⟩
          case measure => simp [intOf]
        · rw [hp] at hst
          have HF2 : Hid (Q = (k : Int)) := Lib.hid (by
            rw [hF']
            cases k with
            | zero => rw [lstL, if_pos (by exact hp)]; rfl
            | succ k => rw [lstL, if_pos hp])
          have HST := Lib.hid hst
          clear hst hF' hF hp hg hneg
          go_wp2_with fail
          refine HST.out.mono ?_
          rintro e w4 ⟨rfl, g4⟩
          go_wp2
          go_ret2
          exact ⟨by rw [HE.out, HF2.out]; rfl, Gr.trans G0.out (Gr.trans Hg.out g4)⟩
  · have HE := Lib.hid (lasT_no (f := f) h)
    have hb : (chk2 s.data.toList t.data.toList == 0) = false := beq_eq_false_iff_ne.2 h
    clear h
    generalize chk2 s.data.toList t.data.toList = E at *
    go_enter Tryd.func38, Tryd.ntmps38
    go_wp2_with fail
    refine (HC.out _).mono ?_
    rintro e w1 ⟨rfl, rfl⟩
    go_wp2
    go_ret2
    exact ⟨by rw [HE.out]; rfl, Gr.refl w⟩
end Go.Proofs.YtlacfknoanjlpaaDoor
