/- The program's Unescape. -/
import Derived.Test.YtcaoknlgbocgpaaGreatDoorCSpu
import Derived.Test.YtcaoknlgbocgpaaGreatDoorCCut
import Derived.Test.YtcaoknlgbocgpaaGreatDoorCEscP
namespace Go.Proofs.YtcaoknlgbocgpaaGreatDoor
open Go.RowKit Go.Shelf
theorem hp1 (l : List UInt8) (c : UInt8) : Lib.hasPrefix l [c] = decide (l.head? = some c) := by
  unfold Lib.hasPrefix
  cases l with
  | nil => rfl
  | cons x t =>
    show (c == x && true) = _
    rw [Bool.and_true, Bool.eq_iff_iff]
    constructor
    · intro h; simp at h ⊢; exact h.symm
    · intro h; simp at h ⊢; exact h.symm
theorem hp2 (l : List UInt8) (c d : UInt8) : Lib.hasPrefix l [c, d] = decide (l.take 2 = [c, d]) := by
  unfold Lib.hasPrefix
  match l with
  | [] => rfl
  | [x] =>
    show (c == x && false) = _
    simp
  | x :: y :: t =>
    show (c == x && (d == y && true)) = _
    rw [Bool.and_true, Bool.eq_iff_iff]
    constructor
    · intro h; simp at h ⊢; exact ⟨h.1.symm, h.2.symm⟩
    · intro h; simp at h ⊢; exact ⟨h.1.symm, h.2.symm⟩
def unPost (l : List UInt8) (w : World) (e : Ending) (w' : World) : Prop :=
  e = .returned (match unesc1 l with
    | none => .tuple #[.int .i32 0, .string ⟨#[]⟩, .bool false]
    | some p => .tuple #[.int .i32 p.1, .string ⟨p.2.toArray⟩, .bool true]) ∧ Gr w w'
theorem unPost_no {l : List UInt8} {w w' : World} {e : Ending} (h : unesc1 l = none) (he : e = .returned (.tuple #[.int .i32 0, .string ⟨#[]⟩, .bool false])) (hg : Gr w w') : unPost l w e w' := by
  unfold unPost; rw [h]; exact ⟨he, hg⟩
theorem unPost_yes {l r : List UInt8} {c : Int} {w w' : World} {e : Ending} (h : unesc1 l = some (c, r)) (he : e = .returned (.tuple #[.int .i32 c, .string ⟨r.toArray⟩, .bool true])) (hg : Gr w w') : unPost l w e w' := by
  unfold unPost; rw [h]; exact ⟨he, hg⟩
set_option maxRecDepth 100000 in
set_option maxHeartbeats 2000000 in
theorem unescaped_p (s : ByteArray) (hs : s.size ≤ 4096) (w : World) (hE : ErrV w) : Calls Tryz.prog 35 #[.string s] w (unPost s.data.toList w) := by
  have HP := Lib.hid (fun w => cutp_any s ⟨#[92]⟩ w)
  have HQ := Lib.hid (fun w => cutp_any s ⟨#[120, 123]⟩ w)
  rw [show (⟨#[92]⟩ : ByteArray).data.toList = [92] from rfl] at HP
  rw [show (⟨#[120, 123]⟩ : ByteArray).data.toList = [120, 123] from rfl] at HQ
  unfold Lib.trimPrefix at HP HQ
  rw [hp1] at HP
  rw [hp2] at HQ
  have HE := Lib.hid hE
  clear hE
  by_cases h1 : s.data.toList.head? = some 92
  · have HU : Hid (unesc1 s.data.toList = some (92, s.data.toList.tail)) := Lib.hid (by unfold unesc1; rw [if_pos h1, List.drop_one])
    rw [decide_eq_true h1] at HP
    clear h1 HQ
    go_enter Tryz.func35, Tryz.ntmps35
    go_wp2_with (go_at_call 59; refine (HP.out _).mono ?_; rintro e w1 ⟨rfl, rfl⟩)
    go_ret3
    exact unPost_yes HU.out rfl (Gr.refl w)
  · rw [decide_eq_false h1] at HP
    by_cases h2 : s.data.toList.take 2 = [120, 123]
    · rw [decide_eq_true h2] at HQ
      obtain ⟨i, hi⟩ : ∃ i, s.data.toList = 120 :: 123 :: i := ⟨s.data.toList.drop 2, by
        have := List.take_append_drop 2 s.data.toList
        rw [h2] at this; exact this.symm⟩
      have hil : i.length ≤ 4096 := by have := congrArg List.length hi; rw [sizeL] at this; simp at this; omega
      have HQ2 : Hid (∀ w, Calls Tryz.prog 59 #[.string s, .string ⟨#[120, 123]⟩] w fun e w' => e = .returned (.tuple #[.string ⟨i.toArray⟩, .bool true]) ∧ w = w') := Lib.hid (fun w => (HQ.out w).mono fun e w' ⟨he, hw⟩ => ⟨by rw [he, hi]; rfl, hw⟩)
      have hin : (⟨i.toArray⟩ : ByteArray).data.toList = i := by simp
      have his : (⟨i.toArray⟩ : ByteArray).size ≤ 140737488351232 := by show i.toArray.size ≤ _; simp; omega
      clear HQ
      cases hsp : splitC 125 i with
      | none =>
        have HU : Hid (unesc1 s.data.toList = none) := Lib.hid (by unfold unesc1; rw [if_neg h1, hi, braced_none hsp]; rfl)
        have HC := Lib.hid (fun w => cut_no ⟨i.toArray⟩ ⟨#[125]⟩ 125 rfl (by rw [hin]; exact hsp) w)
        clear h1 h2 hi hsp hin
        generalize (⟨i.toArray⟩ : ByteArray) = b at *
        go_enter Tryz.func35, Tryz.ntmps35
        go_wp2_with fail
        refine (HP.out _).mono ?_
        rintro e w1 ⟨rfl, rfl⟩
        go_wp2_with fail
        refine (HQ2.out _).mono ?_
        rintro e w1 ⟨rfl, rfl⟩
        go_wp2_with fail
        refine (HC.out _).mono ?_
        rintro e w1 ⟨rfl, g1⟩
        go_wp2
        go_ret3
        exact unPost_no HU.out rfl g1
      | some p =>
        obtain ⟨d, r⟩ := p
        have HC := Lib.hid (fun w => cut_yes ⟨i.toArray⟩ ⟨#[125]⟩ 125 d r rfl (by rw [hin]; exact hsp) his w)
        have hbr := braced_some hsp
        have hdr : (120 :: 123 :: i).drop (d.length + 3) = r := by
          obtain ⟨e, _⟩ := splitC_some hsp
          rw [e, show d.length + 3 = (d.length + 1) + 1 + 1 by omega, List.drop_succ_cons, List.drop_succ_cons, ← List.drop_drop, List.drop_left]; rfl
        have hdn : (⟨d.toArray⟩ : ByteArray).data.toList = d := by simp
        have hds : (⟨d.toArray⟩ : ByteArray).size = d.length := by show d.toArray.size = _; simp
        by_cases hok : (d.length ≤ 6 ∧ hexOk d = true) ∧ isCh (valF 0 d) = true
        · have HU : Hid (unesc1 s.data.toList = some (valF 0 d, r)) := Lib.hid (by
            rw [if_pos hok] at hbr
            unfold unesc1
            rw [if_neg h1, hi, hbr]
            show (if d.length + 3 = 0 then none else some (valF 0 d, (120 :: 123 :: i).drop (d.length + 3))) = _
            rw [if_neg (by omega), hdr])
          have HS := Lib.hid (fun w => spu_ok ⟨d.toArray⟩ (by rw [hds]; exact hok.1.1) (by rw [hdn]; exact hok.1.2) w)
          rw [hdn] at HS
          have hcb := isCh_true.1 hok.2
          have HN := Lib.hid (fun w => isNo_p (valF 0 d) w)
          rw [hok.2] at HN
          have hl6 := hok.1.1
          rw [← hds] at hl6
          clear h1 h2 hi hsp hin hok hbr hdr hdn hds
          generalize valF 0 d = z at *
          generalize (⟨i.toArray⟩ : ByteArray) = b at *
          generalize (⟨d.toArray⟩ : ByteArray) = dd at *
          go_enter Tryz.func35, Tryz.ntmps35
          go_wp2_with fail
          refine (HP.out _).mono ?_
          rintro e w1 ⟨rfl, rfl⟩
          go_wp2_with fail
          refine (HQ2.out _).mono ?_
          rintro e w1 ⟨rfl, rfl⟩
          go_wp2_with fail
          refine (HC.out _).mono ?_
          rintro e w1 ⟨rfl, g1⟩
          go_wp2_with fail
          refine (HS.out _).mono ?_
          rintro e w2 ⟨rfl, g2⟩
          go_wp2_with fail
          refine (HN.out _).mono ?_
          rintro e w3 ⟨rfl, rfl⟩
          go_wp2
          go_ret3
          exact unPost_yes HU.out rfl (Gr.trans g1 g2)
        · have HU : Hid (unesc1 s.data.toList = none) := Lib.hid (by unfold unesc1; rw [if_neg h1, hi, hbr, if_neg hok]; rfl)
          by_cases hl : d.length ≤ 6
          · have hl6 := hl
            rw [← hds] at hl6
            cases hh : hexOk d with
            | true =>
              have hc : isCh (valF 0 d) = false := by
                cases hc : isCh (valF 0 d)
                · rfl
                · exact absurd ⟨⟨hl, hh⟩, hc⟩ hok
              have hvb := valF_bound d (by unfold hexOk at hh; rw [Bool.and_eq_true] at hh; exact hh.2) 0 (by decide)
              have hvb2 : valF 0 d ≤ 16777215 := by
                have : (16 : Int) ^ d.length ≤ 16 ^ 6 := by
                  have : (16 : Nat) ^ d.length ≤ 16 ^ 6 := Nat.pow_le_pow_right (by decide) hl
                  exact_mod_cast this
                have e : (16 : Int) ^ 6 = 16777216 := by decide
                rw [e] at this
                omega
              have hvb1 := hvb.1
              have HS := Lib.hid (fun w => spu_ok ⟨d.toArray⟩ hl6 (by rw [hdn]; exact hh) w)
              rw [hdn] at HS
              have HN := Lib.hid (fun w => isNo_p (valF 0 d) w)
              rw [hc] at HN
              clear h1 h2 hi hsp hin hok hbr hdr hdn hds hl hh hc hvb
              generalize valF 0 d = z at *
              generalize (⟨i.toArray⟩ : ByteArray) = b at *
              generalize (⟨d.toArray⟩ : ByteArray) = dd at *
              go_enter Tryz.func35, Tryz.ntmps35
              go_wp2_with fail
              refine (HP.out _).mono ?_
              rintro e w1 ⟨rfl, rfl⟩
              go_wp2_with fail
              refine (HQ2.out _).mono ?_
              rintro e w1 ⟨rfl, rfl⟩
              go_wp2_with fail
              refine (HC.out _).mono ?_
              rintro e w1 ⟨rfl, g1⟩
              go_wp2_with fail
              refine (HS.out _).mono ?_
              rintro e w2 ⟨rfl, g2⟩
              go_wp2_with fail
              refine (HN.out _).mono ?_
              rintro e w3 ⟨rfl, rfl⟩
              go_wp2
              go_ret3
              exact unPost_no HU.out rfl (Gr.trans g1 g2)
            | false =>
              have HS := Lib.hid (fun w h => spu_no ⟨d.toArray⟩ hl6 (by rw [hdn]; exact hh) w h)
              clear h1 h2 hi hsp hin hok hbr hdr hdn hds hl hh
              generalize (⟨i.toArray⟩ : ByteArray) = b at *
              generalize (⟨d.toArray⟩ : ByteArray) = dd at *
              go_enter Tryz.func35, Tryz.ntmps35
              go_wp2_with fail
              refine (HP.out _).mono ?_
              rintro e w1 ⟨rfl, rfl⟩
              go_wp2_with fail
              refine (HQ2.out _).mono ?_
              rintro e w1 ⟨rfl, rfl⟩
              go_wp2_with fail
              refine (HC.out _).mono ?_
              rintro e w1 ⟨rfl, g1⟩
              go_wp2_with fail
              refine (HS.out _ (HE.out.on g1)).mono ?_
              rintro e w2 ⟨⟨N, rfl⟩, g2⟩
              go_wp2
              go_ret3
              exact unPost_no HU.out rfl (Gr.trans g1 g2)
          · have hl6 : 6 < (⟨d.toArray⟩ : ByteArray).size := by rw [hds]; omega
            clear h1 h2 hi hsp hin hok hbr hdr hdn hds hl
            generalize (⟨i.toArray⟩ : ByteArray) = b at *
            generalize (⟨d.toArray⟩ : ByteArray) = dd at *
            go_enter Tryz.func35, Tryz.ntmps35
            go_wp2_with fail
            refine (HP.out _).mono ?_
            rintro e w1 ⟨rfl, rfl⟩
            go_wp2_with fail
            refine (HQ2.out _).mono ?_
            rintro e w1 ⟨rfl, rfl⟩
            go_wp2_with fail
            refine (HC.out _).mono ?_
            rintro e w1 ⟨rfl, g1⟩
            go_wp2
            go_ret3
            exact unPost_no HU.out rfl g1
    · have HU : Hid (unesc1 s.data.toList = none) := Lib.hid (by unfold unesc1; rw [if_neg h1, braced_no h2]; rfl)
      rw [decide_eq_false h2] at HQ
      clear h1 h2
      go_enter Tryz.func35, Tryz.ntmps35
      go_wp2_with fail
      refine (HP.out _).mono ?_
      rintro e w1 ⟨rfl, rfl⟩
      go_wp2_with fail
      refine (HQ.out _).mono ?_
      rintro e w1 ⟨rfl, rfl⟩
      go_wp2
      go_ret3
      exact unPost_no HU.out rfl (Gr.refl w)
def unescT (l : List UInt8) : List UInt8 × Int := if chkE l = 0 then (match unescL l with | none => ([], 2) | some r => (r, 0)) else ([], chkE l)
theorem unescT_ok {l r : List UInt8} (h : chkE l = 0) (hu : unescL l = some r) : unescT l = (r, 0) := by unfold unescT; rw [if_pos h, hu]
theorem unescT_bad {l : List UInt8} (h : chkE l = 0) (hu : unescL l = none) : unescT l = ([], 2) := by unfold unescT; rw [if_pos h, hu]
theorem unescT_no {l : List UInt8} (h : ¬ chkE l = 0) : unescT l = ([], chkE l) := by unfold unescT; rw [if_neg h]
def strLen : Value → Nat
  | .string s => s.size
  | _ => 0
theorem unesc1_len {l r : List UInt8} {c : Int} (h : unesc1 l = some (c, r)) : r.length < l.length ∧ isCh c = true := by
  unfold unesc1 at h
  by_cases h1 : l.head? = some 92
  · rw [if_pos h1] at h
    injection h with h; injection h with h2 h3
    subst h2 h3
    cases l with
    | nil => cases h1
    | cons x t => exact ⟨by simp, by decide⟩
  · rw [if_neg h1] at h
    by_cases hb : (braced l).2 = 0
    · rw [if_pos hb] at h; cases h
    · rw [if_neg hb] at h
      injection h with h; injection h with h2 h3
      subst h2 h3
      unfold braced at hb ⊢
      split at hb
      · rename_i a
        split at hb
        · exact absurd rfl hb
        · rename_i b
          split at hb
          · rename_i c
            rw [if_pos a, if_neg b, if_pos c]
            refine ⟨?_, c.2⟩
            have : l ≠ [] := by rintro rfl; cases a
            have := List.length_pos_iff.2 this
            rw [List.length_drop]
            show l.length - (_ + 3) < l.length
            omega
          · exact absurd rfl hb
      · exact absurd rfl hb
set_option maxRecDepth 100000 in
set_option maxHeartbeats 4000000 in
theorem unescape_p (s : ByteArray) (w : World) (hE : ErrV w) : Calls Tryz.prog 10 #[.string s] w (TxtPost (unescT s.data.toList) w) := by
  have HC := Lib.hid (check1 s w _ 9 (0, 0) rfl)
  have HE0 := Lib.hid hE
  clear hE
  by_cases h : chkE s.data.toList = 0
  · obtain ⟨h1, h2⟩ := chkE_zero h
    rw [sizeL] at h1
    have HOK := Lib.hid (fun r hu => unescT_ok (l := s.data.toList) (r := r) h hu)
    have HBAD := Lib.hid (fun hu => unescT_bad (l := s.data.toList) h hu)
    rw [h] at HC
    have HR : Hid (∃ U, U = unescL s.data.toList ∧ U = (unescL s.data.toList).map ([] ++ ·)) := Lib.hid ⟨_, rfl, by cases unescL s.data.toList <;> rfl⟩
    clear h h2
    generalize unescT s.data.toList = A at *
    obtain ⟨U, hU, hU2⟩ := HR.out
    rw [← hU] at HOK HBAD
    have HR0 := Lib.hid hU2
    clear HR hU hU2
    go_enter Tryz.func10, Tryz.ntmps10
    go_wp2_with (go_at_call 31; refine HC.out.mono ?_; rintro e w3 ⟨rfl, g3⟩)
    have G3 := Lib.hid g3
    clear g3
    go_loopw [0] (fun sv wr => ∃ (t : ByteArray) (acc : List UInt8), sv = .string t ∧ t.size ≤ s.size ∧ acc.length + 4 * t.size ≤ 4 * s.size ∧ Bld w3.heap.size acc wr ∧ Gr w3 wr ∧ Hid (U = (unescL t.data.toList).map (acc ++ ·))) (fun sv _ => strLen sv)
    case atStart => exact ⟨s, [], rfl, Nat.le_refl _, by simp, bld_new w3, (Gr.refl _).alloc _, HR0⟩
    case round =>
      obtain ⟨t, acc, rfl, ht, hacc, hbl, hg, HU⟩ := hrel
      clear HR0
      have hB := Gr.size hg
      have Hg := Lib.hid hg
      have Hbl := Lib.hid hbl
      clear hg hbl
      cases hsp : splitC 92 t.data.toList with
      | none =>
        have HE : Hid (A = (acc ++ t.data.toList, 0)) := Lib.hid (HOK.out _ (by rw [HU.out, unesc_plain (splitC_none hsp)]; rfl))
        have HCT := Lib.hid (fun w => cut_no t ⟨#[92]⟩ 92 rfl hsp w)
        clear hsp HU
        go_wp2_with fail
        refine (HCT.out _).mono ?_
        rintro e w4 ⟨rfl, g4⟩
        have Hbl4 := Lib.hid (Hbl.out.gr g4)
        have Hg4 := Lib.hid (Gr.trans Hg.out g4)
        have HW := Lib.hid (bld_string t Hbl4.out (by omega) (Gr.size Hg4.out))
        go_wp2_with (go_at_call 33; refine HW.out.mono ?_; rintro e w5 ⟨rfl, h5, b5, k5⟩; have Hg5 := Lib.hid (Below.trans Hg4.out b5); have HT := Lib.hid (bld_text h5 (Below.size Hg5.out)); clear h5)
        refine HT.out.mono ?_
        rintro e w6 ⟨rfl, g6⟩
        go_wp2
        go_ret2
        exact ⟨by rw [HE.out]; rfl, Gr.trans G3.out (Below.trans Hg5.out g6)⟩
      | some p =>
        obtain ⟨a, r⟩ := p
        obtain ⟨hta, hna⟩ := splitC_some hsp
        have hlen : t.size = a.length + (r.length + 1) := by rw [← sizeL, hta]; simp
        have HCT := Lib.hid (fun w => cut_yes t ⟨#[92]⟩ 92 a r rfl hsp (by omega) w)
        have has : (⟨a.toArray⟩ : ByteArray).size = a.length := by show a.toArray.size = _; simp
        have had : (⟨a.toArray⟩ : ByteArray).data.toList = a := by simp
        have hrs : (⟨r.toArray⟩ : ByteArray).size = r.length := by show r.toArray.size = _; simp
        have hrd : (⟨r.toArray⟩ : ByteArray).data.toList = r := by simp
        have HUN := Lib.hid (fun w h => unescaped_p ⟨r.toArray⟩ (by rw [hrs]; omega) w h)
        rw [hrd] at HUN
        have HW0 := Lib.hid (fun (w4 : World) (hb : Bld w3.heap.size acc w4) (hg : Gr w3 w4) => bld_string ⟨a.toArray⟩ hb (by rw [has]; omega) (Gr.size hg))
        rw [had] at HW0
        have hUL : unescL t.data.toList = (unescL (92 :: r)).map (a ++ ·) := by rw [hta, unesc_app hna]
        rw [unescL_back] at hUL
        clear hsp hta hna has had hrd
        have Hlen := Lib.hid hlen
        have Hrs := Lib.hid hrs
        clear hlen hrs
        cases hu : unesc1 r with
        | none =>
          rw [hu] at hUL
          have HE : Hid (A = ([], 2)) := Lib.hid (HBAD.out (by rw [HU.out, hUL]; rfl))
          have HUN2 : Hid (∀ w, ErrV w → Calls Tryz.prog 35 #[.string ⟨r.toArray⟩] w fun e w' => e = .returned (.tuple #[.int .i32 0, .string ⟨#[]⟩, .bool false]) ∧ Gr w w') := Lib.hid (fun w h => (HUN.out w h).mono fun e w' h => by unfold unPost at h; rw [hu] at h; exact h)
          clear HU hUL hu HUN
          generalize (⟨a.toArray⟩ : ByteArray) = ab at *
          generalize (⟨r.toArray⟩ : ByteArray) = rb at *
          go_wp2_with fail
          refine (HCT.out _).mono ?_
          rintro e w4 ⟨rfl, g4⟩
          have Hbl4 := Lib.hid (Hbl.out.gr g4)
          have Hg4 := Lib.hid (Gr.trans Hg.out g4)
          go_wp2_with (go_at_call 33; refine (HW0.out _ Hbl4.out Hg4.out).mono ?_; rintro e w5 ⟨rfl, h5, b5, k5⟩; have Hg5 := Lib.hid (Below.trans Hg4.out b5); clear h5)
          refine (HUN2.out _ (HE0.out.on (Gr.trans G3.out Hg5.out))).mono ?_
          rintro e w6 ⟨rfl, g6⟩
          go_wp2
          go_ret2
          exact ⟨by rw [HE.out]; rfl, Gr.trans G3.out (Gr.trans Hg5.out g6)⟩
        | some p =>
          obtain ⟨c, r'⟩ := p
          obtain ⟨hl', hch⟩ := unesc1_len hu
          have hcl := (oneL_len c).2
          rw [hu] at hUL
          have HU2 : Hid (U = (unescL r').map (((acc ++ a) ++ oneL c) ++ ·)) := Lib.hid (by
            rw [HU.out, hUL]
            cases hq : unescL r' with
            | none => simp [hq]
            | some q => simp [hq])
          have HUN2 : Hid (∀ w, ErrV w → Calls Tryz.prog 35 #[.string ⟨r.toArray⟩] w fun e w' => e = .returned (.tuple #[.int .i32 c, .string ⟨r'.toArray⟩, .bool true]) ∧ Gr w w') := Lib.hid (fun w h => (HUN.out w h).mono fun e w' h => by unfold unPost at h; rw [hu] at h; exact h)
          have hr's : (⟨r'.toArray⟩ : ByteArray).size = r'.length := by show r'.toArray.size = _; simp
          have hr'd : (⟨r'.toArray⟩ : ByteArray).data.toList = r' := by simp
          have HU3 : Hid (U = (unescL (⟨r'.toArray⟩ : ByteArray).data.toList).map (((acc ++ a) ++ oneL c) ++ ·)) := Lib.hid (by rw [hr'd]; exact HU2.out)
          have hsz : (⟨r'.toArray⟩ : ByteArray).size < t.size := by rw [hr's, Hlen.out]; omega
          have hac : (acc ++ a ++ oneL c).length + 4 * (⟨r'.toArray⟩ : ByteArray).size ≤ 4 * s.size := by
            rw [hr's, List.length_append, List.length_append]
            have := Hlen.out
            omega
          have hac2 : (acc ++ a).length + 4 ≤ 140737488355328 := by
            rw [List.length_append]; have := Hlen.out; omega
          clear HU hUL hu HUN HU2 hr's hr'd hl' hcl
          generalize (⟨a.toArray⟩ : ByteArray) = ab at *
          generalize (⟨r.toArray⟩ : ByteArray) = rb at *
          generalize (⟨r'.toArray⟩ : ByteArray) = rb' at *
          have HM : Hid (strLen (.string rb') < strLen (.string t)) := Lib.hid hsz
          go_wp2_with fail
          refine (HCT.out _).mono ?_
          rintro e w4 ⟨rfl, g4⟩
          have Hbl4 := Lib.hid (Hbl.out.gr g4)
          have Hg4 := Lib.hid (Gr.trans Hg.out g4)
          go_wp2_with (go_at_call 33; refine (HW0.out _ Hbl4.out Hg4.out).mono ?_; rintro e w5 ⟨rfl, h5, b5, k5⟩; have Hbl5 := Lib.hid h5; have Hg5 := Lib.hid (Below.trans Hg4.out b5); clear h5)
          refine (HUN2.out _ (HE0.out.on (Gr.trans G3.out Hg5.out))).mono ?_
          rintro e w6 ⟨rfl, g6⟩
          have Hg6 := Lib.hid (Gr.trans Hg5.out g6)
          have HR6 := Lib.hid (bld_rune hch (Hbl5.out.gr g6) hac2 (Gr.size Hg6.out))
          go_wp2_with (go_at_call 36; refine HR6.out.mono ?_; rintro e w7 ⟨⟨n, rfl⟩, h7, b7, k7⟩)
          go_roundw
          case rel => exact ⟨rb', acc ++ a ++ oneL c, rfl, by omega, hac, h7, Below.trans Hg6.out b7, HU3⟩
          case measure => exact HM.out
  · have HN := Lib.hid (unescT_no h)
    have hb : (chkE s.data.toList == 0) = false := beq_eq_false_iff_ne.2 h
    clear h
    generalize chkE s.data.toList = E at *
    go_enter Tryz.func10, Tryz.ntmps10
    go_wp2_with (go_at_call 31; refine HC.out.mono ?_; rintro e w3 ⟨rfl, g3⟩)
    go_ret2
    exact ⟨by rw [HN.out]; rfl, g3⟩
end Go.Proofs.YtcaoknlgbocgpaaGreatDoor
