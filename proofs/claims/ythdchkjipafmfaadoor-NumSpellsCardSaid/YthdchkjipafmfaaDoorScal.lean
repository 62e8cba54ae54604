/- Scalars: contracts of both sides' Validate, texts and truth; the walk of NumScalars. -/
import Derived.Test.YthdchkjipafmfaaDoorWri
import Derived.Test.YthdchkjipafmfaaDoorShelf
import Derived.Lib.LaidTab
import Derived.Lib.AppendIntMem
namespace Go.Proofs.YthdchkjipafmfaaDoor
open Go.RowKit Go.Shelf

abbrev Tab (w : World) : Prop := Lib.TabIs Tryd.prog w "internal/strconv.uint64pow10" .u64 Lib.pow10Tab
theorem Tab.on {a b : World} (h : Tab a) (hg : Gr a b) : Tab b := (Lib.tabBelow_of_tabIs h) b hg
theorem itoa_any (n : Int) (h : -9223372036854775808 ≤ n ∧ n ≤ 9223372036854775807) (w : World) (hT : Tab w) : Calls Tryd.prog 49 #[.int .i64 n] w (WriPost (Lib.itoa n) w) := by
  have c := Any.strconv_Itoa Tryd.laysM171 n h.1 h.2 w hT
  change Calls Tryd.prog 49 _ _ _ at c
  exact c.mono fun e w' ⟨he, k, os, hw⟩ => ⟨⟨(Lib.itoa n).toArray⟩, by simp, he, by
    subst hw
    exact (Gr.refl w).trans (Lib.below_grow _ _ (Nat.le_refl _) _ _)⟩

theorem valid_num {n : Int} {l : List UInt8} (h : validZ 1 n l = 0) : isNumB n = true := by
  unfold validZ at h
  split at h
  · cases h
  · split at h
    · rename_i hb; simp [shapedB] at hb; exact hb.1
    · cases h
def textL (k n : Int) (s : List UInt8) : List UInt8 := if k = 1 then Lib.itoa n else s
def truthB (l : List UInt8) : Bool := !l.isEmpty && !(l == [48])
def TxtPost (l : List UInt8) (x : Int) (w : World) (e : Ending) (w' : World) : Prop := ∃ r : ByteArray, r.data.toList = l ∧ e = .returned (.tuple #[.string r, .int .i64 x]) ∧ Gr w w'

theorem refValidate_any (k n : Int) (s : ByteArray) (t : Bool) (w : World) (hs : s.size ≤ 140737488351232) : Calls Tryd.prog 17 #[.agg #[.int .i64 k, .int .i64 n, .string s, .bool t]] w fun e w' => e = .returned (.int .i64 (validZ k n s.data.toList)) ∧ Gr w w' := by
  by_cases hl : 4096 < s.size
  · have Hv : Hid (validZ k n s.data.toList = 3) := Lib.hid (by rw [validZ, sizeL, if_pos hl])
    go_enter Tryd.func17, Tryd.ntmps17
    go_wp2
    go_ret
    exact ⟨by rw [Hv.out]; rfl, (Gr.refl w).alloc _⟩
  · have Hz : Hid (validZ k n s.data.toList = if shapedB k n s.data.toList then 0 else 1) := Lib.hid (by rw [validZ, sizeL, if_neg hl])
    by_cases h0 : k = 0
    · subst h0
      by_cases hn : n = 0
      · subst hn
        cases he : s.toList.isEmpty
        · have Hv : Hid (validZ 0 0 s.data.toList = 1) := Lib.hid (by rw [Hz.out]; simp [shapedB, ← ByteArray.toList_eq, he])
          clear Hz
          go_enter Tryd.func17, Tryd.ntmps17
          go_wp2
          go_ret
          exact ⟨by rw [Hv.out]; rfl, (Gr.refl w).alloc _⟩
        · have Hv : Hid (validZ 0 0 s.data.toList = 0) := Lib.hid (by rw [Hz.out]; simp [shapedB, ← ByteArray.toList_eq, he])
          clear Hz
          go_enter Tryd.func17, Tryd.ntmps17
          go_wp2
          go_ret
          exact ⟨by rw [Hv.out]; rfl, (Gr.refl w).alloc _⟩
      · have Hv : Hid (validZ 0 n s.data.toList = 1) := Lib.hid (by rw [Hz.out]; simp [shapedB, hn])
        have hnb : (n == 0) = false := by simpa using hn
        clear Hz
        go_enter Tryd.func17, Tryd.ntmps17
        go_wp2
        go_ret
        exact ⟨by rw [Hv.out]; rfl, (Gr.refl w).alloc _⟩
    · by_cases h1 : k = 1
      · subst h1
        cases hn : isNumB n
        · have Hv : Hid (validZ 1 n s.data.toList = 1) := Lib.hid (by rw [Hz.out]; simp [shapedB, hn])
          clear Hz
          go_enter Tryd.func17, Tryd.ntmps17
          go_wp2_with (go_at_call 47; refine (isNum_any _ _).mono ?_; rintro e w' ⟨rfl, rfl⟩)
          go_ret
          exact ⟨by rw [Hv.out]; rfl, (Gr.refl w).alloc _⟩
        · cases he : s.toList.isEmpty
          · have Hv : Hid (validZ 1 n s.data.toList = 1) := Lib.hid (by rw [Hz.out]; simp [shapedB, ← ByteArray.toList_eq, he])
            clear Hz
            go_enter Tryd.func17, Tryd.ntmps17
            go_wp2_with (go_at_call 47; refine (isNum_any _ _).mono ?_; rintro e w' ⟨rfl, rfl⟩)
            go_ret
            exact ⟨by rw [Hv.out]; rfl, (Gr.refl w).alloc _⟩
          · have Hv : Hid (validZ 1 n s.data.toList = 0) := Lib.hid (by rw [Hz.out]; simp [shapedB, ← ByteArray.toList_eq, he, hn])
            clear Hz
            go_enter Tryd.func17, Tryd.ntmps17
            go_wp2_with (go_at_call 47; refine (isNum_any _ _).mono ?_; rintro e w' ⟨rfl, rfl⟩)
            go_ret
            exact ⟨by rw [Hv.out]; rfl, (Gr.refl w).alloc _⟩
      · by_cases h2 : k = 2
        · subst h2
          by_cases hn : n = 0
          · subst hn
            have Hv : Hid (validZ 2 0 s.data.toList = 0) := Lib.hid (by rw [Hz.out]; simp [shapedB])
            clear Hz
            go_enter Tryd.func17, Tryd.ntmps17
            go_wp2
            go_ret
            exact ⟨by rw [Hv.out]; rfl, (Gr.refl w).alloc _⟩
          · have Hv : Hid (validZ 2 n s.data.toList = 1) := Lib.hid (by rw [Hz.out]; simp [shapedB, hn])
            have hnb : (n == 0) = false := by simpa using hn
            clear Hz
            go_enter Tryd.func17, Tryd.ntmps17
            go_wp2
            go_ret
            exact ⟨by rw [Hv.out]; rfl, (Gr.refl w).alloc _⟩
        · have g0 : (k == 0) = false := by simpa using h0
          have g1 : (k == 1) = false := by simpa using h1
          have g2 : (k == 2) = false := by simpa using h2
          have Hv : Hid (validZ k n s.data.toList = 1) := Lib.hid (by rw [Hz.out]; simp [shapedB, h0, h1, h2])
          clear Hz
          go_enter Tryd.func17, Tryd.ntmps17
          go_wp2
          go_ret
          exact ⟨by rw [Hv.out]; rfl, (Gr.refl w).alloc _⟩

theorem refNumber_any (k n : Int) (s : ByteArray) (t : Bool) (w : World) (hs : s.size ≤ 140737488351232) : Calls Tryd.prog 22 #[.agg #[.int .i64 k, .int .i64 n, .string s, .bool t]] w fun e w' => e = .returned (.int .i64 (numZ k n s.data.toList)) ∧ Gr w w' := by
  by_cases hk : k = 2
  · subst hk
    have Hz : Hid (numZ 2 n s.data.toList = number s.data.toList) := Lib.hid (by simp [numZ])
    go_enter Tryd.func22, Tryd.ntmps22
    go_wp2_with (go_at_call 51; refine (ofText_any _ _ hs).mono ?_; rintro e w' ⟨rfl, rfl⟩)
    go_ret
    exact ⟨by rw [Hz.out]; rfl, (Gr.refl w).alloc _⟩
  · have Hz : Hid (numZ k n s.data.toList = n) := Lib.hid (by simp [numZ, hk])
    have hkb : (k == 2) = false := by simpa using hk
    go_enter Tryd.func22, Tryd.ntmps22
    go_wp2
    go_ret
    exact ⟨by rw [Hz.out]; rfl, (Gr.refl w).alloc _⟩
theorem refText_any (k n : Int) (s : ByteArray) (t : Bool) (w : World) (hn : k = 1 → isNumB n = true) : Calls Tryd.prog 23 #[.agg #[.int .i64 k, .int .i64 n, .string s, .bool t]] w (WriPost (textL k n s.data.toList) w) := by
  by_cases hk : k = 1
  · subst hk
    have hb := isNumB_true.1 (hn rfl)
    have Hz : Hid (textL 1 n s.data.toList = Lib.itoa n) := Lib.hid (by simp [textL])
    have hb' := Lib.hid hb
    clear hb hn
    go_enter Tryd.func23, Tryd.ntmps23
    go_wp2_with fail
    refine (written_any _ hb'.out _).mono ?_
    rintro e w1 ⟨r, hr, rfl, hg⟩
    have Hr := Lib.hid hr
    clear hr
    go_wp2
    go_ret
    exact ⟨r, by rw [Hz.out, Hr.out], rfl, ((Gr.refl w).alloc _).trans hg⟩
  · have Hz : Hid (textL k n s.data.toList = s.data.toList) := Lib.hid (by simp [textL, hk])
    have hkb : (k == 1) = false := by simpa using hk
    clear hn
    go_enter Tryd.func23, Tryd.ntmps23
    go_wp2
    go_ret
    exact ⟨s, Hz.out.symm, rfl, (Gr.refl w).alloc _⟩
theorem refIsTrue_any (k n : Int) (s : ByteArray) (t : Bool) (w : World) (hn : k = 1 → isNumB n = true) : Calls Tryd.prog 24 #[.agg #[.int .i64 k, .int .i64 n, .string s, .bool t]] w fun e w' => e = .returned (.bool (truthB (textL k n s.data.toList))) ∧ Gr w w' := by
  have hn' := Lib.hid hn
  clear hn
  go_enter Tryd.func24, Tryd.ntmps24
  go_wp2_with fail
  refine (refText_any _ _ _ _ _ hn'.out).mono ?_
  rintro e w1 ⟨r, hr, rfl, hg⟩
  have Hr : Hid (truthB (textL k n s.data.toList) = (!r.toList.isEmpty && !(r.toList == [48]))) := Lib.hid (by unfold truthB; rw [← hr, ByteArray.toList_eq])
  clear hr
  cases he : (!r.toList.isEmpty)
  · go_wp2
    go_ret
    exact ⟨by rw [Hr.out, he]; rfl, ((Gr.refl w).alloc _).trans hg⟩
  · go_wp2
    go_ret
    exact ⟨by rw [Hr.out, he]; rfl, ((Gr.refl w).alloc _).trans hg⟩
theorem textOf_ok (k n : Int) (s : ByteArray) (t : Bool) (w : World) (hs : s.size ≤ 140737488351232) (hn : -9223372036854775808 ≤ n ∧ n ≤ 9223372036854775807) (hT : Tab w) (hv : validZ k n s.data.toList = 0) : Calls Tryd.prog 19 #[.agg #[.int .i64 k, .int .i64 n, .string s, .bool t]] w (TxtPost (textL k n s.data.toList) 0 w) := by
  have HT := Lib.hid hT
  have Hn := Lib.hid hn
  clear hT hn
  by_cases hk : k = 1
  · subst hk
    have Hz : Hid (textL 1 n s.data.toList = Lib.itoa n) := Lib.hid (by simp [textL])
    go_enter Tryd.func19, Tryd.ntmps19
    go_wp2_with fail
    refine (validate_any _ _ _ _ _ hs).mono ?_
    rintro e w1 ⟨rfl, hg⟩
    obtain ⟨c0, c1, c2, _⟩ := boxed4 hg
    have hg1 := ((Gr.refl w).alloc _).trans hg
    go_wp2_with fail
    refine (itoa_any _ Hn.out _ (HT.out.on hg1)).mono ?_
    rintro e w2 ⟨r, hr, rfl, hg2⟩
    have Hr := Lib.hid hr
    clear hr
    go_wp2
    go_ret2
    exact ⟨r, by rw [Hz.out, Hr.out], rfl, hg1.trans hg2⟩
  · have Hz : Hid (textL k n s.data.toList = s.data.toList) := Lib.hid (by simp [textL, hk])
    have hkb : (k == 1) = false := by simpa using hk
    go_enter Tryd.func19, Tryd.ntmps19
    go_wp2_with fail
    refine (validate_any _ _ _ _ _ hs).mono ?_
    rintro e w1 ⟨rfl, hg⟩
    obtain ⟨c0, c1, c2, _⟩ := boxed4 hg
    have hg1 := ((Gr.refl w).alloc _).trans hg
    go_wp2
    go_ret2
    exact ⟨s, Hz.out.symm, rfl, hg1⟩
theorem textOf_no (k n : Int) (s : ByteArray) (t : Bool) (w : World) (hs : s.size ≤ 140737488351232) (hv : (validZ k n s.data.toList == 0) = false) : Calls Tryd.prog 19 #[.agg #[.int .i64 k, .int .i64 n, .string s, .bool t]] w (TxtPost [] (validZ k n s.data.toList) w) := by
  go_enter Tryd.func19, Tryd.ntmps19
  go_wp2_with fail
  refine (validate_any _ _ _ _ _ hs).mono ?_
  rintro e w1 ⟨rfl, hg⟩
  go_wp2
  go_ret2
  exact ⟨⟨#[]⟩, rfl, rfl, (((Gr.refl w).alloc _).trans hg)⟩
theorem truth_ok (k n : Int) (s : ByteArray) (t : Bool) (w : World) (hs : s.size ≤ 140737488351232) (hn : -9223372036854775808 ≤ n ∧ n ≤ 9223372036854775807) (hT : Tab w) (hv : validZ k n s.data.toList = 0) : Calls Tryd.prog 20 #[.agg #[.int .i64 k, .int .i64 n, .string s, .bool t]] w fun e w' => e = .returned (.tuple #[.bool (truthB (textL k n s.data.toList)), .int .i64 0]) ∧ Gr w w' := by
  have HT := Lib.hid hT
  have Hn := Lib.hid hn
  have Hv := Lib.hid hv
  clear hT hn hv
  go_enter Tryd.func20, Tryd.ntmps20
  go_wp2_with fail
  refine (textOf_ok _ _ _ _ _ hs Hn.out (HT.out.on ((Gr.refl w).alloc _)) Hv.out).mono ?_
  rintro e w1 ⟨r, hr, rfl, hg⟩
  have Hr : Hid (truthB (textL k n s.data.toList) = (!r.toList.isEmpty && !(r.toList == [48]))) := Lib.hid (by unfold truthB; rw [← hr, ByteArray.toList_eq])
  clear hr
  cases he : (!r.toList.isEmpty)
  · go_wp2
    go_ret2
    exact ⟨by rw [Hr.out, he]; rfl, ((Gr.refl w).alloc _).trans hg⟩
  · go_wp2
    go_ret2
    exact ⟨by rw [Hr.out, he]; rfl, ((Gr.refl w).alloc _).trans hg⟩
theorem truth_no (k n : Int) (s : ByteArray) (t : Bool) (w : World) (hs : s.size ≤ 140737488351232) (hv : (validZ k n s.data.toList == 0) = false) : Calls Tryd.prog 20 #[.agg #[.int .i64 k, .int .i64 n, .string s, .bool t]] w fun e w' => e = .returned (.tuple #[.bool false, .int .i64 (validZ k n s.data.toList)]) ∧ Gr w w' := by
  go_enter Tryd.func20, Tryd.ntmps20
  go_wp2_with fail
  refine (textOf_no _ _ _ _ _ hs hv).mono ?_
  rintro e w1 ⟨r, hr, rfl, hg⟩
  clear hr
  go_wp2
  go_ret2
  exact ⟨rfl, ((Gr.refl w).alloc _).trans hg⟩
end Go.Proofs.YthdchkjipafmfaaDoor
