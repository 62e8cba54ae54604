/- numberIn, Looks, Validate, NumberOf of package num: contracts for every argument. -/
import Derived.Test.YthdchkjipafmfaaDoorCut
namespace Go.Proofs.YthdchkjipafmfaaDoor
open Go.RowKit Go.Shelf

theorem byte_sub (b : UInt8) (h : digB (b.toNat : Int) = true) : IntKind.u8.wrap ((b.toNat : Int) - 48) = (b.toNat : Int) - 48 := by
  rw [digB_true] at h
  have := b.toNat_lt
  go_unwrap

set_option maxHeartbeats 400000 in
theorem numberIn_any (s : ByteArray) (w : World) (hs : s.size ≤ 140737488351232) : Calls Tryd.prog 48 #[.string s] w fun e w' => e = .returned (.int .i64 (number s.data.toList)) ∧ Gr w w' := by
  go_enter Tryd.func48, Tryd.ntmps48
  go_wp2_with fail
  refine (cut_any s _ hs).mono ?_
  rintro e w1 ⟨d, r, hd, hr, rfl, hg⟩
  have Hd := Lib.hid hd
  clear hd hr
  have hsz : d.size ≤ 140737488351232 := by
    have : d.data.toList.length ≤ s.data.toList.length := by
      rw [Hd.out]
      unfold digs body unb
      refine Nat.le_trans (List.takeWhile_prefix _).length_le ?_
      rw [List.length_drop]
      exact Nat.le_trans (Nat.sub_le _ _) (List.dropWhile_suffix _).length_le
    simp at this; change d.data.size ≤ s.data.size at this; change s.data.size ≤ _ at hs; change d.data.size ≤ _; omega
  go_wp2_with fail
  have Hall : Hid (d.data.toList.all isDig = true) := Lib.hid (by rw [Hd.out]; exact List.all_takeWhile)
  go_loop [6, 16] (fun n i => ∃ k : Nat, k ≤ d.size ∧ i = .int .i64 k ∧ ∃ m : Nat, m ≤ 9007199254740992 ∧ n = .int .i64 m ∧ Hid (m = val (d.data.toList.take k))) (fun _ i => d.size - (intOf i).toNat)
  case atStart => exact ⟨0, Nat.zero_le _, rfl, 0, Nat.zero_le _, rfl, Lib.hid rfl⟩
  case round =>
    obtain ⟨k, hk, rfl, m, hm, rfl, Hm⟩ := hrel
    by_cases hlt : k < d.size
    · have hb : digB (d[k].toNat : Int) = true := by
        have := List.all_eq_true.1 Hall.out d[k] (List.mem_of_getElem? (getL d k hlt))
        rwa [isDig_iff] at this
      have hbs := byte_sub _ hb
      have hb' := digB_true.1 hb
      clear hb
      go_wp2
      go_round
      case rel =>
        refine ⟨k + 1, by omega, by go_num, min (m * 10 + (d[k].toNat - 48)) 9007199254740992, by omega, ?_, Lib.hid ?_⟩
        · congr 1; omega
        · rw [List.take_add_one, getL d k hlt, Hm.out]; exact (val_snoc _ _).symm
      case measure => simp [intOf]; omega
    · have hv : Hid (m = val (digs s.data.toList)) := Lib.hid (by rw [Hm.out, Hd.out, List.take_of_length_le (by rw [← Hd.out]; exact Nat.not_lt.1 hlt)])
      cases hn : neg s.data.toList
      · go_wp2
        go_ret
        exact ⟨by unfold number; rw [hn, ← hv.out]; rfl, hg⟩
      · go_wp2
        go_ret
        exact ⟨by unfold number; rw [hn, ← hv.out]; rfl, hg⟩

set_option maxHeartbeats 400000 in
theorem looks_any (s : ByteArray) (w : World) (hs : s.size ≤ 140737488351232) : Calls Tryd.prog 25 #[.string s] w fun e w' => e = .returned (.bool (looks s.data.toList)) ∧ Gr w w' := by
  go_enter Tryd.func25, Tryd.ntmps25
  go_wp2_with fail
  refine (cut_any s _ hs).mono ?_
  rintro e w1 ⟨d, r, hd, hr, rfl, hg⟩
  have hl : (rest s.data.toList).length ≤ s.data.toList.length := by
    unfold rest body unb
    refine Nat.le_trans (List.dropWhile_suffix _).length_le ?_
    rw [List.length_drop]
    exact Nat.le_trans (Nat.sub_le _ _) (List.dropWhile_suffix _).length_le
  have hsz : r.size ≤ 140737488351232 := by
    rw [← hr] at hl
    simp at hl; change r.data.size ≤ s.data.size at hl; change s.data.size ≤ _ at hs; change r.data.size ≤ _; omega
  have Hd := Lib.hid hd
  have Hr := Lib.hid hr
  clear hd hr hl
  cases hne : (!d.toList.isEmpty)
  · have hlk : looks s.data.toList = false := by
      unfold looks; rw [← Hd.out, ← ByteArray.toList_eq, hne]; rfl
    have Hlk := Lib.hid hlk
    clear hlk
    go_wp2
    go_ret
    exact ⟨by rw [Hlk.out]; rfl, hg⟩
  · have hlk : looks s.data.toList = (rest s.data.toList).all isBlk := by
      unfold looks; rw [← Hd.out, ← ByteArray.toList_eq, hne]; rfl
    have Hlk := Lib.hid hlk
    clear hlk
    go_wp2_with fail
    refine (trim_any r _ (by omega)).mono ?_
    rintro e w2 ⟨t, ht, rfl, hg2⟩
    have Ht := Lib.hid ht
    clear ht
    go_wp2
    go_ret
    refine ⟨?_, hg.trans hg2⟩
    rw [Hlk.out, ← Hr.out]
    have h2 : t.toList.isEmpty = r.data.toList.all isBlk := by
      rw [Bool.eq_iff_iff, List.isEmpty_iff, ByteArray.toList_eq]; exact Ht.out
    rw [← h2]
    rfl

/-- a scalar as a value -/
def scal (k n : Int) (s : ByteArray) (t : Bool) : Value := .agg #[.int .i64 k, .int .i64 n, .string s, .bool t]
/-- what Validate gives -/
def shapedB (k n : Int) (s : List UInt8) : Bool := if k = 0 then n == 0 && s.isEmpty else if k = 1 then isNumB n && s.isEmpty else if k = 2 then n == 0 else false
def validZ (k n : Int) (s : List UInt8) : Int := if 4096 < s.length then 3 else if shapedB k n s then 0 else 1

theorem sizeL (s : ByteArray) : s.data.toList.length = s.size := by simp
theorem validZ_cases (k n : Int) (s : List UInt8) : validZ k n s = 0 ∨ validZ k n s = 1 ∨ validZ k n s = 3 := by
  unfold validZ; split
  · simp
  · split <;> simp
theorem isShaped_any (k n : Int) (s : ByteArray) (t : Bool) (w : World) : Calls Tryd.prog 50 #[.agg #[.int .i64 k, .int .i64 n, .string s, .bool t]] w fun e w' => e = .returned (.bool (shapedB k n s.data.toList)) ∧ Gr w w' := by
  have e0 : ∀ b : Bool, b = shapedB k n s.data.toList → Ending.returned (Value.bool b) = Ending.returned (Value.bool (shapedB k n s.data.toList)) := fun b h => by rw [h]
  by_cases h0 : k = 0
  · subst h0
    go_enter Tryd.func50, Tryd.ntmps50
    go_wp2
    all_goals (go_ret; exact ⟨e0 _ (by simp [shapedB, ByteArray.toList_eq, *]), (Gr.refl w).alloc _⟩)
  · by_cases h1 : k = 1
    · subst h1
      cases hn : isNumB n
      all_goals
        go_enter Tryd.func50, Tryd.ntmps50
        go_wp2_with (go_at_call 62; refine (isNumber_any _ _).mono ?_; rintro e w' ⟨rfl, rfl⟩)
        go_ret
        exact ⟨e0 _ (by simp [shapedB, ByteArray.toList_eq, *]), (Gr.refl w).alloc _⟩
    · by_cases h2 : k = 2
      · subst h2
        go_enter Tryd.func50, Tryd.ntmps50
        go_wp2
        all_goals (go_ret; exact ⟨e0 _ (by simp [shapedB, *]), (Gr.refl w).alloc _⟩)
      · have g0 : (k == 0) = false := by simpa using h0
        have g1 : (k == 1) = false := by simpa using h1
        have g2 : (k == 2) = false := by simpa using h2
        have hs : shapedB k n s.data.toList = false := by simp [shapedB, h0, h1, h2]
        have Hs := Lib.hid hs
        clear hs
        go_enter Tryd.func50, Tryd.ntmps50
        go_wp2
        all_goals (go_ret; exact ⟨by rw [Hs.out]; rfl, (Gr.refl w).alloc _⟩)
theorem validate_any (k n : Int) (s : ByteArray) (t : Bool) (w : World) (hs : s.size ≤ 140737488351232) : Calls Tryd.prog 21 #[.agg #[.int .i64 k, .int .i64 n, .string s, .bool t]] w fun e w' => e = .returned (.int .i64 (validZ k n s.data.toList)) ∧ Gr w w' := by
  by_cases hl : 4096 < s.size
  · have Hv : Hid (validZ k n s.data.toList = 3) := Lib.hid (by rw [validZ, sizeL, if_pos hl])
    go_enter Tryd.func21, Tryd.ntmps21
    go_wp2
    go_ret
    exact ⟨by rw [Hv.out]; rfl, (Gr.refl w).alloc _⟩
  · cases hb : shapedB k n s.data.toList
    · have Hv : Hid (validZ k n s.data.toList = 1) := Lib.hid (by rw [validZ, sizeL, if_neg hl, hb]; rfl)
      go_enter Tryd.func21, Tryd.ntmps21
      go_wp2_with (go_at_call 50; refine (isShaped_any _ _ _ _ _).mono ?_; rintro e w' ⟨rfl, hg⟩)
      go_ret
      exact ⟨by rw [Hv.out]; rfl, ((Gr.refl w).alloc _).trans hg⟩
    · have Hv : Hid (validZ k n s.data.toList = 0) := Lib.hid (by rw [validZ, sizeL, if_neg hl, hb]; rfl)
      go_enter Tryd.func21, Tryd.ntmps21
      go_wp2_with (go_at_call 50; refine (isShaped_any _ _ _ _ _).mono ?_; rintro e w' ⟨rfl, hg⟩)
      go_ret
      exact ⟨by rw [Hv.out]; rfl, ((Gr.refl w).alloc _).trans hg⟩
theorem boxed4 {w w1 : World} {a b c d : Value} {T : TypeId} (hg : Gr (w.alloc (.cells #[a, b, c, d] T)) w1) :
    w1.cell? ⟨w.heap.size, 0, none⟩ = some a ∧ w1.cell? ⟨w.heap.size, 1, none⟩ = some b ∧ w1.cell? ⟨w.heap.size, 2, none⟩ = some c ∧ w1.cell? ⟨w.heap.size, 3, none⟩ = some d := by
  refine ⟨?_, ?_, ?_, ?_⟩ <;> (rw [hg.cell (by simp)]; simp [World.cell?_alloc_new])
/-- the number of a right scalar -/
def numZ (k n : Int) (s : List UInt8) : Int := if k = 2 then number s else n
theorem numberOf_ok (k n : Int) (s : ByteArray) (t : Bool) (w : World) (hs : s.size ≤ 140737488351232) (hv : validZ k n s.data.toList = 0) : Calls Tryd.prog 18 #[.agg #[.int .i64 k, .int .i64 n, .string s, .bool t]] w fun e w' => e = .returned (.tuple #[.int .i64 (numZ k n s.data.toList), .int .i64 0]) ∧ Gr w w' := by
  by_cases hk : k = 2
  · subst hk
    have Hz : Hid (numZ 2 n s.data.toList = number s.data.toList) := Lib.hid (by simp [numZ])
    go_enter Tryd.func18, Tryd.ntmps18
    go_wp2_with fail
    refine (validate_any _ _ _ _ _ hs).mono ?_
    rintro e w1 ⟨rfl, hg⟩
    obtain ⟨c0, c1, c2, _⟩ := boxed4 hg
    go_wp2_with (go_at_call 48; refine (numberIn_any _ _ hs).mono ?_; rintro e w2 ⟨rfl, hg2⟩)
    go_ret2
    exact ⟨by rw [Hz.out]; rfl, (((Gr.refl w).alloc _).trans hg).trans hg2⟩
  · have Hz : Hid (numZ k n s.data.toList = n) := Lib.hid (by simp [numZ, hk])
    have hk2 : (k == 2) = false := by simpa using hk
    go_enter Tryd.func18, Tryd.ntmps18
    go_wp2_with fail
    refine (validate_any _ _ _ _ _ hs).mono ?_
    rintro e w1 ⟨rfl, hg⟩
    obtain ⟨c0, c1, c2, _⟩ := boxed4 hg
    go_wp2
    go_ret2
    exact ⟨by rw [Hz.out]; rfl, (((Gr.refl w).alloc _).trans hg)⟩
theorem numberOf_no (k n : Int) (s : ByteArray) (t : Bool) (w : World) (hs : s.size ≤ 140737488351232) (hv : (validZ k n s.data.toList == 0) = false) : Calls Tryd.prog 18 #[.agg #[.int .i64 k, .int .i64 n, .string s, .bool t]] w fun e w' => e = .returned (.tuple #[.int .i64 0, .int .i64 (validZ k n s.data.toList)]) ∧ Gr w w' := by
  go_enter Tryd.func18, Tryd.ntmps18
  go_wp2_with fail
  refine (validate_any _ _ _ _ _ hs).mono ?_
  rintro e w1 ⟨rfl, hg⟩
  go_wp2
  go_ret2
  exact ⟨rfl, (((Gr.refl w).alloc _).trans hg)⟩
end Go.Proofs.YthdchkjipafmfaaDoor
