/- The reference's reading of characters: IsChar, first, Valid, Checked, both, sized. -/
import Derived.Test.YtcaoknlgbocgpaaGreatDoorCVal
namespace Go.Proofs.YtcaoknlgbocgpaaGreatDoor
open Go.RowKit Go.Shelf
theorem isChar_r (c : Int) (w : World) : Calls Tryz.prog 53 #[.int .i64 c] w fun e w' => e = .returned (.bool (isCh c)) ∧ w = w' := by
  go_enter Tryz.func53, Tryz.ntmps53
  go_wp2
  all_goals (go_ret; exact ⟨by first | (simp_all [isCh]; done) | (simp_all [isCh]; omega), rfl⟩)
/-- one more byte -/
theorem cont_step {r : List UInt8} {j : Nat} {c : Int} {x : UInt8} {t : List UInt8} (hx : r.drop j = x :: t) : (goesB (x.toNat : Int) = true → cont (r.drop j) c = cont (r.drop (j + 1)) (c * 64 + (x.toNat : Int) - 128)) ∧ (goesB (x.toNat : Int) = false → cont (r.drop j) c = none) := by
  have ht : r.drop (j + 1) = t := by rw [← List.drop_drop, hx]; rfl
  rw [hx, ht]
  exact ⟨cont_on, cont_no⟩
def bdI (i : Nat) (c : Int) : Prop := 0 ≤ c ∧ ((i = 1 ∧ c < 32) ∨ (i = 2 ∧ c < 2048) ∨ (i = 3 ∧ c < 131072) ∨ (i = 4 ∧ c < 8388608))
set_option maxRecDepth 100000 in
set_option maxHeartbeats 4000000 in
theorem first_lead (s : ByteArray) (n : Nat) (c0 m : Int) (h0 : 0 < s.size) (hs : n ≤ s.size) (w : World)
    (hc : ((n = 2 ∧ m = 128 ∧ (192 : Int) ≤ (s[0].toNat : Int) ∧ (s[0].toNat : Int) < 224 ∧ c0 = (s[0].toNat : Int) - 192) ∨ (n = 3 ∧ m = 2048 ∧ (224 : Int) ≤ (s[0].toNat : Int) ∧ (s[0].toNat : Int) < 240 ∧ c0 = (s[0].toNat : Int) - 224) ∨ (n = 4 ∧ m = 65536 ∧ (240 : Int) ≤ (s[0].toNat : Int) ∧ (s[0].toNat : Int) < 248 ∧ c0 = (s[0].toNat : Int) - 240))) :
    Calls Tryz.prog 51 #[.string s] w fun e w' => e = .returned (.tuple #[.int .i64 (made n m (cont ((s.data.toList.drop 1).take (n - 1)) c0)).1, .int .i64 (made n m (cont ((s.data.toList.drop 1).take (n - 1)) c0)).2]) ∧ w = w' := by
  have HL : Hid (∀ j (h : j < s.size), 1 ≤ j → j < n → ∃ t, ((s.data.toList.drop 1).take (n - 1)).drop (j - 1) = s[j] :: t) := Lib.hid (by
    intro j h h1 h2
    have this : j - 1 < ((s.data.toList.drop 1).take (n - 1)).length := by rw [List.length_take, List.length_drop, sizeL]; omega
    refine ⟨((s.data.toList.drop 1).take (n - 1)).drop (j - 1 + 1), ?_⟩
    rw [List.drop_eq_getElem_cons this]
    congr 1
    rw [List.getElem_take, List.getElem_drop]
    have e : 1 + (j - 1) = j := by omega
    have := getL s j h
    simp only [e]
    rw [List.getElem?_eq_getElem (by rw [sizeL]; exact h)] at this
    exact Option.some.inj this)
  have HN : Hid (((s.data.toList.drop 1).take (n - 1)).drop (n - 1) = []) := Lib.hid (List.drop_eq_nil_of_le (by rw [List.length_take]; exact Nat.min_le_left _ _))
  have HR : Hid (cont ((s.data.toList.drop 1).take (n - 1)) c0 = cont (((s.data.toList.drop 1).take (n - 1)).drop (1 - 1)) c0) := Lib.hid rfl
  have hI : Hid (bdI 1 c0) := Lib.hid (by unfold bdI; omega)
  generalize hX : cont ((s.data.toList.drop 1).take (n - 1)) c0 = X at *
  clear hX
  generalize (s.data.toList.drop 1).take (n - 1) = T at *
  have hb := s[0].toNat_lt
  have hz0 : ((s.size : Int) == 0) = false := beq_eq_false_iff_ne.2 (by omega)
  rcases hc with ⟨hn, hm, b1, b2, hc0⟩ | ⟨hn, hm, b1, b2, hc0⟩ | ⟨hn, hm, b1, b2, hc0⟩
  all_goals
    have Hm := Lib.hid hm
    have Hc := Lib.hid hc0
    clear hc0 hm
    go_enter Tryz.func51, Tryz.ntmps51
    go_wp2_with fail
    rw [← Hc.out]
    go_loopw [6, 8] (fun cv iv wr => w = wr ∧ ∃ k : Nat, 1 ≤ k ∧ k ≤ n ∧ ∃ z : Int, cv = .int .i64 z ∧ iv = .int .i64 k ∧ Hid (bdI k z) ∧ Hid (X = cont (T.drop (k - 1)) z)) (fun _ iv _ => n - (intOf iv).toNat)
    case atStart => exact ⟨rfl, 1, by omega, by omega, _, rfl, rfl, hI, HR⟩
    case round =>
      obtain ⟨rfl, k, hk1, hkn, z, rfl, rfl, hz, HX⟩ := hrel
      by_cases hk : k < n
      · have hzb := hz.out
        unfold bdI at hzb
        have hks : k < s.size := by omega
        have hx := s[k].toNat_lt
        obtain ⟨t, ht⟩ := HL.out k hks hk1 hk
        have hst := cont_step (c := z) ht
        rw [show k - 1 + 1 = k by omega] at hst
        by_cases hg : goesB (s[k].toNat : Int) = true
        · have hgb := goes_true.1 hg
          have HX2 := Lib.hid (HX.out.trans (hst.1 hg))
          have HB : Hid (bdI (k + 1) (z * 64 + (s[k].toNat : Int) - 128)) := Lib.hid (by unfold bdI; omega)
          clear hst ht hg
          go_wp2_with fail
          go_roundw
          case rel => exact ⟨by trivial, k + 1, by omega, by omega, _, rfl, by go_num, HB, by rw [show k + 1 - 1 = k by omega]; exact HX2⟩
          case measure => simp [intOf]; omega
        · have hgb : ¬ ((128 : Int) ≤ (s[k].toNat : Int) ∧ (s[k].toNat : Int) < 192) := fun h => hg (goes_true.2 h)
          have HX2 := Lib.hid (HX.out.trans (hst.2 (by simpa using hg)))
          clear hst ht hg
          go_wp2
          all_goals
            go_ret2
            exact ⟨by rw [HX2.out]; rfl, rfl⟩
      · obtain rfl : k = n := by omega
        have HE : Hid (X = some z) := Lib.hid (by rw [HX.out, HN.out]; rfl)
        have hzb := hz.out
        unfold bdI at hzb
        have hm := Hm.out
        by_cases hl : z < m
        · have HM : Hid (made k m X = (0, 0)) := Lib.hid (by rw [HE.out]; exact made_no (.inl hl))
          rw [hm] at hl
          clear hm
          go_wp2
          go_ret2
          exact ⟨by rw [HM.out]; rfl, rfl⟩
        · have HP := Lib.hid (fun w => isChar_r z w)
          cases hC : isCh z
          · have HM : Hid (made k m X = (0, 0)) := Lib.hid (by rw [HE.out]; exact made_no (.inr hC))
            rw [hC] at HP
            rw [hm] at hl
            clear hm
            go_wp2_with (go_at_call 53; refine (HP.out _).mono ?_; rintro e w3 ⟨rfl, rfl⟩)
            go_ret2
            exact ⟨by rw [HM.out]; rfl, rfl⟩
          · have HM : Hid (made k m X = (z, k)) := Lib.hid (by rw [HE.out]; exact made_some hl hC)
            rw [hC] at HP
            rw [hm] at hl
            clear hm
            go_wp2_with (go_at_call 53; refine (HP.out _).mono ?_; rintro e w3 ⟨rfl, rfl⟩)
            go_ret2
            exact ⟨by rw [HM.out, hn]; rfl, rfl⟩
end Go.Proofs.YtcaoknlgbocgpaaGreatDoor
