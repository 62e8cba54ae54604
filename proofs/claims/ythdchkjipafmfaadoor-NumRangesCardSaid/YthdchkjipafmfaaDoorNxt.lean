/- Next on both sides; the walk of NumNexts. -/
import Derived.Test.YthdchkjipafmfaaDoorNxtR
import Derived.Test.YthdchkjipafmfaaDoorNxtN
import Derived.Test.YthdchkjipafmfaaDoorScal2
namespace Go.Proofs.YthdchkjipafmfaaDoor
open Go.RowKit Go.Shelf
/-- what Next gives -/
def nxB (l : List UInt8) : Bool := decide (4096 < l.length) || decide (4096 < (further l).length)
def nxL (l : List UInt8) : List UInt8 := if nxB l = true then [] else further l
def nxE (l : List UInt8) : Int := if nxB l = true then 3 else 0
theorem refNext_any (s : ByteArray) (w : World) (hs : s.size ≤ 140737488351232) : Calls Tryd.prog 34 #[.string s] w (TxtPost (nxL s.data.toList) (nxE s.data.toList) w) := by
  by_cases h1 : 4096 < s.size
  · have hb : nxB s.data.toList = true := by unfold nxB; rw [sizeL, decide_eq_true h1]; rfl
    have hL : nxL s.data.toList = [] := if_pos hb
    have hE : nxE s.data.toList = 3 := if_pos hb
    rw [hL, hE]
    clear hb hL hE
    go_enter Tryd.func34, Tryd.ntmps34
    go_wp2
    go_ret2
    exact ⟨_, rfl, rfl, Gr.refl w⟩
  · have HF := Lib.hid (fun w => refFurther_any s w (by omega))
    have hb : Hid (nxB s.data.toList = decide (4096 < (further s.data.toList).length)) := Lib.hid (by unfold nxB; rw [sizeL, decide_eq_false h1, Bool.false_or])
    by_cases h2 : 4096 < (further s.data.toList).length
    · have hL : nxL s.data.toList = [] := if_pos (by rw [hb.out]; exact decide_eq_true h2)
      have hE : nxE s.data.toList = 3 := if_pos (by rw [hb.out]; exact decide_eq_true h2)
      rw [hL, hE]
      have H2 := Lib.hid h2
      clear hb hL hE h2
      go_enter Tryd.func34, Tryd.ntmps34
      go_wp2_with fail
      refine (HF.out _).mono ?_
      rintro e w1 ⟨r, hr, rfl, hg⟩
      have hz : 4096 < r.size := by rw [← sizeL, hr]; exact H2.out
      clear hr
      go_wp2
      go_ret2
      exact ⟨_, rfl, rfl, hg⟩
    · have hL : nxL s.data.toList = further s.data.toList := if_neg (by rw [hb.out, decide_eq_false h2]; decide)
      have hE : nxE s.data.toList = 0 := if_neg (by rw [hb.out, decide_eq_false h2]; decide)
      rw [hE]
      have H2 := Lib.hid h2
      have HL := Lib.hid hL
      clear hb hL hE h2
      go_enter Tryd.func34, Tryd.ntmps34
      go_wp2_with fail
      refine (HF.out _).mono ?_
      rintro e w1 ⟨r, hr, rfl, hg⟩
      have hz : ¬ 4096 < r.size := by rw [← sizeL, hr]; exact H2.out
      have Hr := Lib.hid hr
      clear hr
      go_wp2
      go_ret2
      exact ⟨r, by rw [Hr.out, HL.out], rfl, hg⟩
theorem next_any (s : ByteArray) (w : World) (hs : s.size ≤ 140737488351232) (hT : Tab w) : Calls Tryd.prog 35 #[.string s] w (TxtPost (nxL s.data.toList) (nxE s.data.toList) w) := by
  by_cases h1 : 4096 < s.size
  · have hb : nxB s.data.toList = true := by unfold nxB; rw [sizeL, decide_eq_true h1]; rfl
    have hL : nxL s.data.toList = [] := if_pos hb
    have hE : nxE s.data.toList = 3 := if_pos hb
    rw [hL, hE]
    clear hb hL hE hT
    go_enter Tryd.func35, Tryd.ntmps35
    go_wp2
    go_ret2
    exact ⟨_, rfl, rfl, Gr.refl w⟩
  · have HF := Lib.hid (further_any s w (by omega) hT)
    clear hT
    have hb : Hid (nxB s.data.toList = decide (4096 < (further s.data.toList).length)) := Lib.hid (by unfold nxB; rw [sizeL, decide_eq_false h1, Bool.false_or])
    by_cases h2 : 4096 < (further s.data.toList).length
    · have hL : nxL s.data.toList = [] := if_pos (by rw [hb.out]; exact decide_eq_true h2)
      have hE : nxE s.data.toList = 3 := if_pos (by rw [hb.out]; exact decide_eq_true h2)
      rw [hL, hE]
      have H2 := Lib.hid h2
      clear hb hL hE h2
      go_enter Tryd.func35, Tryd.ntmps35
      go_wp2_with fail
      refine HF.out.mono ?_
      rintro e w1 ⟨r, hr, rfl, hg⟩
      have hz : 4096 < r.size := by rw [← sizeL, hr]; exact H2.out
      clear hr
      go_wp2
      go_ret2
      exact ⟨_, rfl, rfl, hg⟩
    · have hL : nxL s.data.toList = further s.data.toList := if_neg (by rw [hb.out, decide_eq_false h2]; decide)
      have hE : nxE s.data.toList = 0 := if_neg (by rw [hb.out, decide_eq_false h2]; decide)
      rw [hE]
      have H2 := Lib.hid h2
      have HL := Lib.hid hL
      clear hb hL hE h2
      go_enter Tryd.func35, Tryd.ntmps35
      go_wp2_with fail
      refine HF.out.mono ?_
      rintro e w1 ⟨r, hr, rfl, hg⟩
      have hz : ¬ 4096 < r.size := by rw [← sizeL, hr]; exact H2.out
      have Hr := Lib.hid hr
      clear hr
      go_wp2
      go_ret2
      exact ⟨r, by rw [Hr.out, HL.out], rfl, hg⟩
theorem law_nexts (s : ByteArray) (hs : s.size ≤ 140737488351232) (w : World) (hT : Tab w) :
    Calls Tryd.prog 9 #[.string s] w fun e w' => e = .returned (.bool true) ∧ Gr w w' := by
  by_cases hl : 16384 < s.size
  · clear hT
    go_enter Tryd.func9, Tryd.ntmps9
    go_wp2_with (first | (go_at_call 15; refine (long_any _ _ (by omega)).mono ?_; rintro e w' ⟨rfl, rfl⟩) | (go_at_call 16; refine (known_any _).mono ?_; rintro e w' ⟨rfl, hg⟩))
    go_ret
    exact ⟨rfl, hg⟩
  · have H1 := Lib.hid (fun w => refNext_any s w hs)
    have H2 := Lib.hid (fun w hT => next_any s w hs hT)
    have HT := Lib.hid hT
    clear hT
    generalize nxE s.data.toList = E at *
    go_enter Tryd.func9, Tryd.ntmps9
    go_wp2_with (first | (go_at_call 15; refine (long_any _ _ (by omega)).mono ?_; rintro e w' ⟨rfl, rfl⟩))
    refine (H1.out _).mono ?_
    rintro e w1 ⟨r1, hr1, rfl, g1⟩
    have Hr1 := Lib.hid hr1
    have HT1 : Hid (Tab w1) := Lib.hid (HT.out.on g1)
    clear hr1
    go_wp2_with fail
    refine (H2.out _ HT1.out).mono ?_
    rintro e w2 ⟨r2, hr2, rfl, g2⟩
    have heq : (r2.toList == r1.toList) = true := by rw [ByteArray.toList_eq, ByteArray.toList_eq, Hr1.out, hr2]; simp
    clear hr2
    go_wp2_with fail
    refine (known_any _).mono ?_
    rintro e w3 ⟨rfl, g3⟩
    go_wp2
    go_ret
    exact ⟨rfl, (g1.trans g2).trans g3⟩
end Go.Proofs.YthdchkjipafmfaaDoor
