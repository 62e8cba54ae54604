/- RText RText2 RText3 RText4 -/
import Derived.Test.YthmopindibdhnaaGreatDoorM20
namespace Go.Proofs.YthmopindibdhnaaGreatDoor.G
open Go.RowKit Go.Shelf Go.Maps
/-- a text without interpolation, between o and q -/
def plR (o q : UInt8) : List UInt8 → List UInt8
  | [] => []
  | [x] => [x]
  | x :: y :: t => if x = 92 ∧ (y = 92 ∨ y = o ∨ y = q) then y :: plR o q t else x :: plR o q (y :: t)
theorem plR_len (o q : UInt8) : ∀ l, (plR o q l).length ≤ l.length
  | [] => Nat.le_refl _
  | [x] => Nat.le_refl _
  | x :: y :: t => by
    rw [plR]
    split
    · have := plR_len o q t; simp; omega
    · have := plR_len o q (y :: t); simp at this ⊢; omega
theorem plR_two {o q : UInt8} {l : List UInt8} {i : Nat} (h : i < l.length) (h2 : i + 1 < l.length) (hc : l[i] = 92 ∧ (l[i + 1] = 92 ∨ l[i + 1] = o ∨ l[i + 1] = q)) : plR o q (l.drop i) = l[i + 1] :: plR o q (l.drop (i + 2)) := by
  rw [List.drop_eq_getElem_cons h, List.drop_eq_getElem_cons h2, plR, if_pos hc]
theorem plR_one {o q : UInt8} {l : List UInt8} {i : Nat} (h : i < l.length) (hc : ∀ h2 : i + 1 < l.length, ¬ (l[i] = 92 ∧ (l[i + 1] = 92 ∨ l[i + 1] = o ∨ l[i + 1] = q))) : plR o q (l.drop i) = l[i] :: plR o q (l.drop (i + 1)) := by
  rw [List.drop_eq_getElem_cons h]
  by_cases h2 : i + 1 < l.length
  · rw [List.drop_eq_getElem_cons h2, plR, if_neg (hc h2)]
  · rw [List.drop_eq_nil_of_le (by omega)]; rfl
set_option maxRecDepth 100000 in
set_option maxHeartbeats 2000000 in
theorem plain_r (s : ByteArray) (hs : s.size ≤ 100000) (o q : UInt8) (hq : partR (o.toNat : Int) = (q.toNat : Int)) (w : World) :
    Calls Tryz.prog 93 #[.string s, .int .u8 (o.toNat : Int)] w fun e w' => e = .returned (.string (ba (plR o q s.data.toList))) ∧ Gr w w' := by
  have HP := Lib.hid (fun w => partner_r (o.toNat : Int) w)
  rw [hq] at HP
  obtain ⟨l, hl⟩ : ∃ l, l = s.data.toList := ⟨_, rfl⟩
  have hsz : s.size = l.length := by rw [hl, ← sizeL]
  have HB := Lib.hid (fun n (h : n < s.size) (h' : n < l.length) => (show s[n] = l[n] by subst hl; exact byteE s n h h'))
  have HX := Lib.hid (fun n (h' : n < l.length) => (show (s.extract n (n + 1)).data.toList = [l[n]] by
    subst hl; rw [extractE, List.drop_eq_getElem_cons h']; simp))
  have Hsz := Lib.hid hsz
  rw [← hl]
  obtain ⟨R, hR⟩ : ∃ R : ByteArray, R = ba (plR o q l) := ⟨_, rfl⟩
  rw [← hR]
  have HR : Hid (R.data.toList = plR o q l) := Lib.hid (by rw [hR, ba_data])
  have HL : Hid ((plR o q l).length ≤ s.size) := Lib.hid (by rw [hsz]; exact plR_len o q l)
  clear hl hsz hR hq
  go_enter Tryz.func93, Tryz.ntmps93
  go_wp2_with fail
  go_loopw [5, 6] (fun ov iv wr => ∃ (i : Nat) (u : ByteArray), iv = .int .i64 (i : Int) ∧ ov = .string u ∧ i ≤ s.size ∧ Hid (R.data.toList = u.data.toList ++ plR o q (l.drop i)) ∧ Gr w wr) (fun _ iv _ => leftTo s.size iv)
  case atStart => exact ⟨0, _, rfl, rfl, Nat.zero_le _, Lib.hid (by rw [HR.out]; rfl), Gr.refl w⟩
  case round =>
    obtain ⟨i, u, rfl, rfl, hi, hO, hG⟩ := hrel
    have Gg := Lib.hid hG
    have hus : u.size ≤ 100000 := by
      have h1 := congrArg List.length hO.out
      rw [HR.out, List.length_append, sizeL] at h1
      have := HL.out; omega
    have hui : (u.size : Int) ≤ 100000 := by omega
    clear hG HR HL hus
    by_cases hc : i < s.size
    · have hci : (i : Int) < (s.size : Int) := by omega
      have hL : i < l.length := by rw [← Hsz.out]; exact hc
      have ex := HB.out i hc hL
      have hX := Lib.hid (HX.out i hL)
      have hi1 : (i : Int) + 1 ≤ 9223372036854775807 := by omega
      have hi2 : -9223372036854775808 ≤ (i : Int) + 1 := by omega
      by_cases h1 : l[i] = 92
      · have t1 : ((l[i].toNat : Int) == 92) = true := by rw [h1]; rfl
        by_cases hd : i + 1 < s.size
        · have hL2 : i + 1 < l.length := by rw [← Hsz.out]; exact hd
          obtain ⟨k, hk⟩ : ∃ k, k = i + 1 := ⟨_, rfl⟩
          have Hk := Lib.hid hk
          have ek : (i : Int) + 1 = (k : Int) := by omega
          have hdk : (k : Int) < (s.size : Int) := by omega
          have hk1 : (k : Int) + 1 ≤ 9223372036854775807 := by omega
          have hk2 : -9223372036854775808 ≤ (k : Int) + 1 := by omega
          have hLk : k < l.length := by rw [hk]; exact hL2
          have hds : k < s.size := by rw [hk]; exact hd
          have ey := HB.out k hds hLk
          have hY := Lib.hid (HX.out k hLk)
          by_cases h2 : l[i + 1] = 92 ∨ l[i + 1] = o ∨ l[i + 1] = q
          · have hst := Lib.hid (plR_two hL hL2 ⟨h1, h2⟩)
            have hO2 : Hid (R.data.toList = (u.data.toList ++ [l[k]]) ++ plR o q (l.drop (i + 2))) := Lib.hid (by subst hk; rw [hO.out, hst.out]; simp)
            have h2' : l[k] = 92 ∨ l[k] = o ∨ l[k] = q := by subst hk; exact h2
            generalize l[i] = x at *
            clear h2 hst hL2 hd
            generalize l[k] = y at *
            clear hi1 hi2
            by_cases h3 : y = 92
            · have t2 : ((y.toNat : Int) == 92) = true := by rw [h3]; rfl
              clear h1 h3 h2' HB HX hO hL hLk hk
              go_wp2_with fail
              go_quiet ((go_at_call 72; exact quiet_at (HP.out _)))
              go_wp2_with fail
              go_roundw
              case rel => exact ⟨i + 2, _, by congr 1; have := Hk.out; omega, rfl, by have := Hk.out; omega, Lib.hid (by rw [ByteArray.data_append, Array.toList_append, hY.out]; exact hO2.out), Gg.out.drewN _⟩
              case measure => simp only [leftTo]; have := Hk.out; omega
            · have t2 : ((y.toNat : Int) == 92) = false := u8_neq (y := 92) h3
              by_cases h4 : y = o
              · have t3 : ((y.toNat : Int) == (o.toNat : Int)) = true := by rw [h4]; simp
                clear h1 h3 h4 h2' HB HX hO hL hLk hk
                go_wp2_with fail
                go_quiet ((go_at_call 72; exact quiet_at (HP.out _)))
                go_wp2_with fail
                go_roundw
                case rel => exact ⟨i + 2, _, by congr 1; have := Hk.out; omega, rfl, by have := Hk.out; omega, Lib.hid (by rw [ByteArray.data_append, Array.toList_append, hY.out]; exact hO2.out), Gg.out.drewN _⟩
                case measure => simp only [leftTo]; have := Hk.out; omega
              · have t3 : ((y.toNat : Int) == (o.toNat : Int)) = false := u8_neq h4
                have h5 : y = q := (h2'.resolve_left h3).resolve_left h4
                have t4 : ((y.toNat : Int) == (q.toNat : Int)) = true := by rw [h5]; simp
                clear h1 h3 h4 h5 h2' HB HX hO hL hLk hk
                go_wp2_with fail
                go_quiet ((go_at_call 72; exact quiet_at (HP.out _)))
                go_wp2_with fail
                go_roundw
                case rel => exact ⟨i + 2, _, by congr 1; have := Hk.out; omega, rfl, by have := Hk.out; omega, Lib.hid (by rw [ByteArray.data_append, Array.toList_append, hY.out]; exact hO2.out), Gg.out.drewN _⟩
                case measure => simp only [leftTo]; have := Hk.out; omega
          · have hst := Lib.hid (plR_one (o := o) (q := q) hL (fun _ h => h2 h.2))
            have h2' : l[k] ≠ 92 ∧ l[k] ≠ o ∧ l[k] ≠ q := by subst hk; exact ⟨fun h => h2 (.inl h), fun h => h2 (.inr (.inl h)), fun h => h2 (.inr (.inr h))⟩
            have hO2 : Hid (R.data.toList = (u.data.toList ++ [l[i]]) ++ plR o q (l.drop (i + 1))) := Lib.hid (by rw [hO.out, hst.out]; simp)
            generalize l[i] = x at *
            clear h2 hst hL2 hd
            generalize l[k] = y at *
            have t2 : ((y.toNat : Int) == 92) = false := u8_neq (y := 92) h2'.1
            have t3 : ((y.toNat : Int) == (o.toNat : Int)) = false := u8_neq h2'.2.1
            have t4 : ((y.toNat : Int) == (q.toNat : Int)) = false := u8_neq h2'.2.2
            clear hi1 hi2
            clear h1 h2' HB HX hO hL hLk hk hk1 hk2
            go_wp2_with fail
            go_quiet ((go_at_call 72; exact quiet_at (HP.out _)))
            go_wp2_with fail
            go_roundw
            case rel => exact ⟨i + 1, _, by rw [Hk.out], rfl, by omega, Lib.hid (by rw [ByteArray.data_append, Array.toList_append, Hk.out, hX.out]; exact hO2.out), Gg.out.drewN _⟩
            case measure => simp only [leftTo]; omega
        · have hst := Lib.hid (plR_one (o := o) (q := q) hL (fun h2 _ => hd (by rw [Hsz.out]; exact h2)))
          have hdk : decide ((i : Int) + 1 < (s.size : Int)) = false := by simp; omega
          have hdk2 : ¬ (i : Int) + 1 < (s.size : Int) := by omega
          have hO2 : Hid (R.data.toList = (u.data.toList ++ [l[i]]) ++ plR o q (l.drop (i + 1))) := Lib.hid (by rw [hO.out, hst.out]; simp)
          generalize l[i] = x at *
          clear h1 HB HX hO hst hL hd
          go_wp2_with fail
          go_quiet (fail)
          go_wp2_with fail
          go_roundw
          case rel => exact ⟨i + 1, _, rfl, rfl, by omega, Lib.hid (by rw [ByteArray.data_append, Array.toList_append, hX.out]; exact hO2.out), Gg.out.drewN _⟩
          case measure => simp only [leftTo]; omega
      · have t1 : ((l[i].toNat : Int) == 92) = false := u8_neq (y := 92) h1
        have hst := Lib.hid (plR_one (o := o) (q := q) hL (fun h2 h => h1 h.1))
        have hO2 : Hid (R.data.toList = (u.data.toList ++ [l[i]]) ++ plR o q (l.drop (i + 1))) := Lib.hid (by rw [hO.out, hst.out]; simp)
        generalize l[i] = x at *
        clear h1 HB HX hO hst hL
        go_wp2_with fail
        go_quiet ((go_at_call 72; exact quiet_at (HP.out _)))
        go_wp2_with fail
        go_roundw
        case rel => exact ⟨i + 1, _, rfl, rfl, by omega, Lib.hid (by rw [ByteArray.data_append, Array.toList_append, hX.out]; exact hO2.out), Gg.out.drewN _⟩
        case measure => simp only [leftTo]; omega
    · have hci : decide ((i : Int) < (s.size : Int)) = false := by simp; omega
      have hci2 : ¬ (i : Int) < (s.size : Int) := by omega
      have HE : Hid (u = R) := Lib.hid (by
        have := hO.out
        rw [List.drop_eq_nil_of_le (by rw [← Hsz.out]; omega)] at this
        have e : R.data.toList = u.data.toList := by rw [this]; simp [plR]
        cases R with | mk a => cases u with | mk b => simp only at e; rw [Array.toList_inj.1 e])
      clear HB HX hc hO
      go_wp2_with fail
      go_ret
      exact ⟨by rw [HE.out]; rfl, Gg.out⟩
end Go.Proofs.YthmopindibdhnaaGreatDoor.G
namespace Go.Proofs.YthmopindibdhnaaGreatDoor.G
open Go.RowKit Go.Shelf Go.Maps
/-- the text of a pattern -/
def patR : List UInt8 → List UInt8
  | [] => []
  | [x] => [x]
  | x :: y :: t => if x = 92 then (if y = 47 then y :: patR t else x :: y :: patR t) else x :: patR (y :: t)
theorem patR_len : ∀ l, (patR l).length ≤ l.length
  | [] => Nat.le_refl _
  | [x] => Nat.le_refl _
  | x :: y :: t => by
    have h1 := patR_len t
    have h2 := patR_len (y :: t)
    rw [patR]
    split
    · split <;> simp <;> omega
    · simp at h2 ⊢; omega
theorem patR_two {l : List UInt8} {i : Nat} (h : i < l.length) (h2 : i + 1 < l.length) (hc : l[i] = 92) : patR (l.drop i) = if l[i + 1] = 47 then l[i + 1] :: patR (l.drop (i + 2)) else l[i] :: l[i + 1] :: patR (l.drop (i + 2)) := by
  rw [List.drop_eq_getElem_cons h, List.drop_eq_getElem_cons h2, patR, if_pos hc]
theorem patR_one {l : List UInt8} {i : Nat} (h : i < l.length) (hc : i + 1 < l.length → l[i] ≠ 92) : patR (l.drop i) = l[i] :: patR (l.drop (i + 1)) := by
  rw [List.drop_eq_getElem_cons h]
  by_cases h2 : i + 1 < l.length
  · rw [List.drop_eq_getElem_cons h2, patR, if_neg (hc h2)]
  · rw [List.drop_eq_nil_of_le (by omega)]; rfl
theorem ba_eq {u R : ByteArray} (e : R.data.toList = u.data.toList) : u = R := by
  cases R with | mk a => cases u with | mk b => simp only at e; rw [Array.toList_inj.1 e]
set_option maxRecDepth 100000 in
set_option maxHeartbeats 2000000 in
theorem pattern_r (s : ByteArray) (hs : s.size ≤ 100000) (w : World) :
    Calls Tryz.prog 95 #[.string s] w fun e w' => e = .returned (.string (ba (patR s.data.toList))) ∧ Gr w w' := by
  obtain ⟨l, hl⟩ : ∃ l, l = s.data.toList := ⟨_, rfl⟩
  have hsz : s.size = l.length := by rw [hl, ← sizeL]
  have HB := Lib.hid (fun n (h : n < s.size) (h' : n < l.length) => (show s[n] = l[n] by subst hl; exact byteE s n h h'))
  have HX := Lib.hid (fun n (h' : n < l.length) => (show (s.extract n (n + 1)).data.toList = [l[n]] by
    subst hl; rw [extractE, List.drop_eq_getElem_cons h']; simp))
  have Hsz := Lib.hid hsz
  rw [← hl]
  obtain ⟨R, hR⟩ : ∃ R : ByteArray, R = ba (patR l) := ⟨_, rfl⟩
  rw [← hR]
  have HR : Hid (R.data.toList = patR l) := Lib.hid (by rw [hR, ba_data])
  have HL : Hid ((patR l).length ≤ s.size) := Lib.hid (by rw [hsz]; exact patR_len l)
  clear hl hsz hR
  go_enter Tryz.func95, Tryz.ntmps95
  go_wp2_with fail
  go_loopw [3, 4] (fun ov iv wr => ∃ (i : Nat) (u : ByteArray), iv = .int .i64 (i : Int) ∧ ov = .string u ∧ i ≤ s.size ∧ Hid (R.data.toList = u.data.toList ++ patR (l.drop i)) ∧ Gr w wr) (fun _ iv _ => leftTo s.size iv)
  case atStart => exact ⟨0, _, rfl, rfl, Nat.zero_le _, Lib.hid (by rw [HR.out]; rfl), Gr.refl w⟩
  case round =>
    obtain ⟨i, u, rfl, rfl, hi, hO, hG⟩ := hrel
    have Gg := Lib.hid hG
    have hus : u.size ≤ 100000 := by
      have h1 := congrArg List.length hO.out
      rw [HR.out, List.length_append, sizeL] at h1
      have := HL.out; omega
    have hui : (u.size : Int) ≤ 100000 := by omega
    clear hG HR HL hus
    by_cases hc : i < s.size
    · have hci : (i : Int) < (s.size : Int) := by omega
      have hL : i < l.length := by rw [← Hsz.out]; exact hc
      have ex := HB.out i hc hL
      have hX := Lib.hid (HX.out i hL)
      have hi1 : (i : Int) + 1 ≤ 9223372036854775807 := by omega
      have hi2 : -9223372036854775808 ≤ (i : Int) + 1 := by omega
      by_cases h1 : l[i] = 92
      · have t1 : ((l[i].toNat : Int) == 92) = true := by rw [h1]; rfl
        by_cases hd : i + 1 < s.size
        · have hL2 : i + 1 < l.length := by rw [← Hsz.out]; exact hd
          obtain ⟨k, hk⟩ : ∃ k, k = i + 1 := ⟨_, rfl⟩
          have Hk := Lib.hid hk
          have ek : (i : Int) + 1 = (k : Int) := by omega
          have hdk : (k : Int) < (s.size : Int) := by omega
          have hk1 : (k : Int) + 1 ≤ 9223372036854775807 := by omega
          have hk2 : -9223372036854775808 ≤ (k : Int) + 1 := by omega
          have hLk : k < l.length := by rw [hk]; exact hL2
          have hds : k < s.size := by rw [hk]; exact hd
          have ey := HB.out k hds hLk
          have hY := Lib.hid (HX.out k hLk)
          have hst := Lib.hid (patR_two hL hL2 h1)
          by_cases h2 : l[k] = 47
          · have hO2 : Hid (R.data.toList = (u.data.toList ++ [l[k]]) ++ patR (l.drop (i + 2))) := Lib.hid (by subst hk; rw [hO.out, hst.out, if_pos h2]; simp)
            have t2 : ((l[k].toNat : Int) == 47) = true := by rw [h2]; rfl
            have t3 : ((l[k].toNat : Int) != 47) = false := by rw [h2]; rfl
            clear hst h2
            generalize l[i] = x at *
            generalize l[k] = y at *
            clear hi1 hi2 h1 HB HX hO hL hLk hk hL2 hd
            go_wp2_with fail
            go_roundw
            case rel => exact ⟨i + 2, _, by congr 1; have := Hk.out; omega, rfl, by have := Hk.out; omega, Lib.hid (by rw [ByteArray.data_append, Array.toList_append, hY.out]; exact hO2.out), Gg.out⟩
            case measure => simp only [leftTo]; have := Hk.out; omega
          · have hO2 : Hid (R.data.toList = (u.data.toList ++ [92] ++ [l[k]]) ++ patR (l.drop (i + 2))) := Lib.hid (by subst hk; rw [hO.out, hst.out, if_neg h2, h1]; simp)
            have t2 : ((l[k].toNat : Int) == 47) = false := u8_neq (y := 47) h2
            have t3 : ((l[k].toNat : Int) != 47) = true := by simp only [bne, t2]; rfl
            clear hst h2
            generalize l[i] = x at *
            generalize l[k] = y at *
            clear hi1 hi2 h1 HB HX hO hL hLk hk hL2 hd
            go_wp2_with fail
            go_roundw
            case rel => exact ⟨i + 2, _, by congr 1; have := Hk.out; omega, rfl, by have := Hk.out; omega, Lib.hid (by rw [ByteArray.data_append, Array.toList_append, hY.out, ByteArray.data_append, Array.toList_append]; exact hO2.out), Gg.out⟩
            case measure => simp only [leftTo]; have := Hk.out; omega
        · have hst := Lib.hid (patR_one hL (fun h2 => absurd (by rw [Hsz.out]; exact h2) hd))
          have hdk : decide ((i : Int) + 1 < (s.size : Int)) = false := by simp; omega
          have hdk2 : ¬ (i : Int) + 1 < (s.size : Int) := by omega
          have hO2 : Hid (R.data.toList = (u.data.toList ++ [l[i]]) ++ patR (l.drop (i + 1))) := Lib.hid (by rw [hO.out, hst.out]; simp)
          generalize l[i] = x at *
          clear h1 HB HX hO hst hL hd
          go_wp2_with fail
          go_roundw
          case rel => exact ⟨i + 1, _, rfl, rfl, by omega, Lib.hid (by rw [ByteArray.data_append, Array.toList_append, hX.out]; exact hO2.out), Gg.out⟩
          case measure => simp only [leftTo]; omega
      · have t1 : ((l[i].toNat : Int) == 92) = false := u8_neq (y := 92) h1
        have hst := Lib.hid (patR_one hL (fun _ => h1))
        have hO2 : Hid (R.data.toList = (u.data.toList ++ [l[i]]) ++ patR (l.drop (i + 1))) := Lib.hid (by rw [hO.out, hst.out]; simp)
        generalize l[i] = x at *
        clear h1 HB HX hO hst hL
        go_wp2_with fail
        go_roundw
        case rel => exact ⟨i + 1, _, rfl, rfl, by omega, Lib.hid (by rw [ByteArray.data_append, Array.toList_append, hX.out]; exact hO2.out), Gg.out⟩
        case measure => simp only [leftTo]; omega
    · have hci : decide ((i : Int) < (s.size : Int)) = false := by simp; omega
      have hci2 : ¬ (i : Int) < (s.size : Int) := by omega
      have HE : Hid (u = R) := Lib.hid (by
        have := hO.out
        rw [List.drop_eq_nil_of_le (by rw [← Hsz.out]; omega)] at this
        exact ba_eq (by rw [this]; simp [patR]))
      clear HB HX hc hO
      go_wp2_with fail
      go_ret
      exact ⟨by rw [HE.out]; rfl, Gg.out⟩
end Go.Proofs.YthmopindibdhnaaGreatDoor.G
namespace Go.Proofs.YthmopindibdhnaaGreatDoor.G
open Go.RowKit Go.Shelf Go.Maps
/-- the words of a text, behind what is there; pb: a blank stands before -/
def woR : List UInt8 → Bool → List UInt8 → List UInt8
  | acc, _, [] => acc
  | acc, pb, c :: t => if blkB c.toNat = true then woR acc true t else woR ((if acc ≠ [] ∧ pb = true then acc ++ [32] else acc) ++ [c]) false t
def wordsR (l : List UInt8) : List UInt8 := woR [] false l
theorem woR_len : ∀ (l : List UInt8) (acc : List UInt8) (pb : Bool), (woR acc pb l).length ≤ acc.length + 2 * l.length
  | [], acc, pb => by simp [woR]
  | c :: t, acc, pb => by
    rw [woR]
    split
    · have := woR_len t acc true; simp; omega
    · have := woR_len t ((if acc ≠ [] ∧ pb = true then acc ++ [32] else acc) ++ [c]) false
      have h2 : ((if acc ≠ [] ∧ pb = true then acc ++ [32] else acc) ++ [c]).length ≤ acc.length + 2 := by split <;> simp
      simp only [List.length_cons]; omega
theorem woR_ge : ∀ (l : List UInt8) (acc : List UInt8) (pb : Bool), acc.length ≤ (woR acc pb l).length
  | [], acc, pb => by simp [woR]
  | c :: t, acc, pb => by
    rw [woR]
    split
    · exact woR_ge t acc true
    · have := woR_ge t ((if acc ≠ [] ∧ pb = true then acc ++ [32] else acc) ++ [c]) false
      have h2 : acc.length ≤ ((if acc ≠ [] ∧ pb = true then acc ++ [32] else acc) ++ [c]).length := by split <;> simp <;> omega
      omega
/-- whether a blank stands before a place -/
def pbR (l : List UInt8) : Nat → Bool
  | 0 => false
  | i + 1 => match l[i]? with
    | none => false
    | some c => blkB c.toNat
theorem pbR_at {l : List UInt8} {i : Nat} (h : i < l.length) : pbR l (i + 1) = blkB l[i].toNat := by
  show (match l[i]? with | none => false | some c => blkB c.toNat) = _
  rw [List.getElem?_eq_getElem h]
theorem woR_blk {l acc : List UInt8} {i : Nat} {pb : Bool} (h : i < l.length) (hc : blkB l[i].toNat = true) : woR acc pb (l.drop i) = woR acc (pbR l (i + 1)) (l.drop (i + 1)) := by
  rw [List.drop_eq_getElem_cons h, woR, if_pos hc, pbR_at h, hc]
theorem woR_sep {l acc : List UInt8} {i : Nat} (h : i < l.length) (hc : blkB l[i].toNat = false) (ha : acc ≠ []) : woR acc true (l.drop i) = woR ((acc ++ [32]) ++ [l[i]]) (pbR l (i + 1)) (l.drop (i + 1)) := by
  rw [List.drop_eq_getElem_cons h, woR, if_neg (by rw [hc]; decide), if_pos ⟨ha, rfl⟩, pbR_at h, hc]
theorem woR_on {l acc : List UInt8} {i : Nat} {pb : Bool} (h : i < l.length) (hc : blkB l[i].toNat = false) (ha : acc = [] ∨ pb = false) : woR acc pb (l.drop i) = woR (acc ++ [l[i]]) (pbR l (i + 1)) (l.drop (i + 1)) := by
  rw [List.drop_eq_getElem_cons h, woR, if_neg (by rw [hc]; decide), if_neg (by rintro ⟨h1, h2⟩; rcases ha with ha | ha; exact h1 ha; rw [ha] at h2; exact absurd h2 (by decide)), pbR_at h, hc]
theorem acc_ne {u : ByteArray} (h : u.data.toList ≠ []) : (u.toList != []) = true := by rw [ByteArray.toList_eq]; simpa using h
theorem acc_nil {u : ByteArray} (h : u.data.toList = []) : (u.toList != []) = false := by rw [ByteArray.toList_eq, h]; rfl
set_option maxRecDepth 100000 in
set_option maxHeartbeats 2000000 in
theorem words_r (s : ByteArray) (hs : s.size ≤ 100000) (w : World) :
    Calls Tryz.prog 94 #[.string s] w fun e w' => e = .returned (.string (ba (wordsR s.data.toList))) ∧ Gr w w' := by
  have HK := Lib.hid blk_r
  obtain ⟨l, hl⟩ : ∃ l, l = s.data.toList := ⟨_, rfl⟩
  have hsz : s.size = l.length := by rw [hl, ← sizeL]
  have HB := Lib.hid (fun n (h : n < s.size) (h' : n < l.length) => (show s[n] = l[n] by subst hl; exact byteE s n h h'))
  have HX := Lib.hid (fun n (h' : n < l.length) => (show (s.extract n (n + 1)).data.toList = [l[n]] by
    subst hl; rw [extractE, List.drop_eq_getElem_cons h']; simp))
  have Hsz := Lib.hid hsz
  rw [← hl]
  obtain ⟨R, hR⟩ : ∃ R : ByteArray, R = ba (wordsR l) := ⟨_, rfl⟩
  rw [← hR]
  have HR : Hid (R.data.toList = woR [] false l) := Lib.hid (by rw [hR, ba_data]; rfl)
  have HL : Hid ((woR [] false l).length ≤ 2 * s.size) := Lib.hid (by have := woR_len l [] false; rw [hsz]; simpa using this)
  clear hl hsz hR
  go_enter Tryz.func94, Tryz.ntmps94
  go_wp2_with fail
  go_loopw [3, 4] (fun ov iv wr => ∃ (i : Nat) (u : ByteArray), iv = .int .i64 (i : Int) ∧ ov = .string u ∧ i ≤ s.size ∧ Hid (R.data.toList = woR u.data.toList (pbR l i) (l.drop i)) ∧ Hid (i = 0 → u.data.toList = []) ∧ Gr w wr) (fun _ iv _ => leftTo s.size iv)
  case atStart => exact ⟨0, _, rfl, rfl, Nat.zero_le _, Lib.hid (by rw [HR.out]; rfl), Lib.hid (fun _ => rfl), Gr.refl w⟩
  case round =>
    obtain ⟨i, u, rfl, rfl, hi, hO, h00, hG⟩ := hrel
    have Gg := Lib.hid hG
    have hus : u.size ≤ 200000 := by
      have h1 := congrArg List.length hO.out
      have h2 := woR_ge (l.drop i) u.data.toList (pbR l i)
      rw [← h1, HR.out, sizeL] at h2
      have := HL.out; omega
    have hui : (u.size : Int) ≤ 200000 := by omega
    clear hG HR HL hus
    by_cases hc : i < s.size
    · have hci : (i : Int) < (s.size : Int) := by omega
      have hL : i < l.length := by rw [← Hsz.out]; exact hc
      have ex := HB.out i hc hL
      have hX := Lib.hid (HX.out i hL)
      have hi1 : (i : Int) + 1 ≤ 9223372036854775807 := by omega
      have hi2 : -9223372036854775808 ≤ (i : Int) + 1 := by omega
      have HKi := Lib.hid (fun w => HK.out l[i].toNat w)
      cases hb : blkB l[i].toNat with
      | true =>
        rw [hb] at HKi
        have hO2 : Hid (R.data.toList = woR u.data.toList (pbR l (i + 1)) (l.drop (i + 1))) := Lib.hid (by rw [hO.out, woR_blk hL hb])
        generalize l[i] = x at *
        clear hb HB HX hO hL
        go_wp2_with fail
        refine (HKi.out _).mono ?_
        rintro e w2 ⟨rfl, rfl⟩
        go_wp2_with fail
        go_roundw
        case rel => exact ⟨i + 1, u, rfl, rfl, by omega, hO2, Lib.hid (fun h => absurd h (Nat.succ_ne_zero _)), Gg.out⟩
        case measure => simp only [leftTo]; omega
      | false =>
        rw [hb] at HKi
        by_cases hu : u.data.toList = []
        · have hO2 : Hid (R.data.toList = woR (u.data.toList ++ [l[i]]) (pbR l (i + 1)) (l.drop (i + 1))) := Lib.hid (by rw [hO.out, woR_on hL hb (.inl hu)])
          have t1 := acc_nil hu
          have t0 : (u.toList == []) = true := by rw [ByteArray.toList_eq, hu]; rfl
          generalize l[i] = x at *
          clear hb HB HX hO hL hu
          go_wp2_with fail
          refine (HKi.out _).mono ?_
          rintro e w2 ⟨rfl, rfl⟩
          go_wp2_with fail
          go_roundw
          case rel => exact ⟨i + 1, _, rfl, rfl, by omega, Lib.hid (by rw [ByteArray.data_append, Array.toList_append, hX.out]; exact hO2.out), Lib.hid (fun h => absurd h (Nat.succ_ne_zero _)), Gg.out⟩
          case measure => simp only [leftTo]; omega
        · have t1 := acc_ne hu
          have t0 : (u.toList == []) = false := by rw [ByteArray.toList_eq]; simpa using hu
          have h0 : 0 < i := Nat.pos_of_ne_zero (fun e => hu (h00.out e))
          obtain ⟨k, hk⟩ : ∃ k, i = k + 1 := ⟨i - 1, by omega⟩
          have hLk : k < l.length := by omega
          have hks : k < s.size := by omega
          have ek : (i : Int) - 1 = (k : Int) := by omega
          have ey := HB.out k hks hLk
          have hks2 : (k : Int) < (s.size : Int) := by omega
          have HKk := Lib.hid (fun w => HK.out l[k].toNat w)
          have hpb : pbR l i = blkB l[k].toNat := by rw [hk]; exact pbR_at hLk
          have Hk := Lib.hid hk
          cases hp : blkB l[k].toNat with
          | true =>
            rw [hp] at HKk hpb
            have hO2 : Hid (R.data.toList = woR ((u.data.toList ++ [32]) ++ [l[i]]) (pbR l (i + 1)) (l.drop (i + 1))) := Lib.hid (by rw [hO.out, hpb, woR_sep hL hb hu])
            generalize l[i] = x at *
            generalize l[k] = y at *
            clear hb HB HX hO hL hu hk hLk h0 hp hpb
            go_wp2_with fail
            refine (HKi.out _).mono ?_
            rintro e w2 ⟨rfl, rfl⟩
            go_wp2_with fail
            refine (HKk.out _).mono ?_
            rintro e w2 ⟨rfl, rfl⟩
            go_wp2_with fail
            go_roundw
            case rel => exact ⟨i + 1, _, rfl, rfl, by omega, Lib.hid (by rw [ByteArray.data_append, Array.toList_append, hX.out, ByteArray.data_append, Array.toList_append]; exact hO2.out), Lib.hid (fun h => absurd h (Nat.succ_ne_zero _)), Gg.out⟩
            case measure => simp only [leftTo]; omega
          | false =>
            rw [hp] at HKk hpb
            have hO2 : Hid (R.data.toList = woR (u.data.toList ++ [l[i]]) (pbR l (i + 1)) (l.drop (i + 1))) := Lib.hid (by rw [hO.out, woR_on hL hb (.inr hpb)])
            generalize l[i] = x at *
            generalize l[k] = y at *
            clear hb HB HX hO hL hu hk hLk h0 hp hpb
            go_wp2_with fail
            refine (HKi.out _).mono ?_
            rintro e w2 ⟨rfl, rfl⟩
            go_wp2_with fail
            refine (HKk.out _).mono ?_
            rintro e w2 ⟨rfl, rfl⟩
            go_wp2_with fail
            go_roundw
            case rel => exact ⟨i + 1, _, rfl, rfl, by omega, Lib.hid (by rw [ByteArray.data_append, Array.toList_append, hX.out]; exact hO2.out), Lib.hid (fun h => absurd h (Nat.succ_ne_zero _)), Gg.out⟩
            case measure => simp only [leftTo]; omega
    · have hci : decide ((i : Int) < (s.size : Int)) = false := by simp; omega
      have hci2 : ¬ (i : Int) < (s.size : Int) := by omega
      have HE : Hid (u = R) := Lib.hid (by
        have := hO.out
        rw [List.drop_eq_nil_of_le (by rw [← Hsz.out]; omega)] at this
        exact ba_eq (by rw [this]; simp [woR]))
      clear HB HX hc hO
      go_wp2_with fail
      go_ret
      exact ⟨by rw [HE.out]; rfl, Gg.out⟩
end Go.Proofs.YthmopindibdhnaaGreatDoor.G
namespace Go.Proofs.YthmopindibdhnaaGreatDoor.G
open Go.RowKit Go.Shelf Go.Maps
/-- whether a backslash before a byte goes -/
def goesB (o q : UInt8) (sl : Bool) (y : UInt8) : Bool := (((y == o || y == q) && !(y == 34)) && !(y == 92)) || (sl && y == 47)
/-- a text with interpolation, between o and q -/
def inR (o q : UInt8) (sl : Bool) : List UInt8 → List UInt8
  | [] => []
  | [x] => if x = 34 then [92, 34] else [x]
  | x :: y :: t => if x = 92 then (if goesB o q sl y = true then y :: inR o q sl t else 92 :: y :: inR o q sl t) else if x = 34 then 92 :: 34 :: inR o q sl (y :: t) else x :: inR o q sl (y :: t)
theorem inR_len (o q : UInt8) (sl : Bool) : ∀ l, (inR o q sl l).length ≤ 2 * l.length
  | [] => Nat.le_refl _
  | [x] => by rw [inR]; split <;> simp
  | x :: y :: t => by
    have h1 := inR_len o q sl t
    have h2 := inR_len o q sl (y :: t)
    simp only [List.length_cons] at h2
    rw [inR]
    split
    · split <;> simp only [List.length_cons] <;> omega
    · split <;> simp only [List.length_cons] <;> omega
variable {o q : UInt8} {sl : Bool} {l : List UInt8} {i : Nat}
theorem inR_go (h : i < l.length) (h2 : i + 1 < l.length) (hc : l[i] = 92) (hg : goesB o q sl l[i + 1] = true) : inR o q sl (l.drop i) = l[i + 1] :: inR o q sl (l.drop (i + 2)) := by
  rw [List.drop_eq_getElem_cons h, List.drop_eq_getElem_cons h2, inR, if_pos hc, if_pos hg]
theorem inR_stay (h : i < l.length) (h2 : i + 1 < l.length) (hc : l[i] = 92) (hg : goesB o q sl l[i + 1] = false) : inR o q sl (l.drop i) = 92 :: l[i + 1] :: inR o q sl (l.drop (i + 2)) := by
  rw [List.drop_eq_getElem_cons h, List.drop_eq_getElem_cons h2, inR, if_pos hc, if_neg (by rw [hg]; decide)]
theorem inR_1 (o q : UInt8) (sl : Bool) (x : UInt8) : inR o q sl [x] = if x = 34 then [92, 34] else [x] := by rw [inR]
theorem inR_quo (h : i < l.length) (hc : l[i] = 34) : inR o q sl (l.drop i) = 92 :: 34 :: inR o q sl (l.drop (i + 1)) := by
  rw [List.drop_eq_getElem_cons h]
  by_cases h2 : i + 1 < l.length
  · rw [List.drop_eq_getElem_cons h2, inR, if_neg (by rw [hc]; decide), if_pos hc]
  · rw [List.drop_eq_nil_of_le (by omega), inR_1, if_pos hc]; rfl
theorem inR_one (h : i < l.length) (hc : l[i] ≠ 34) (hd : i + 1 < l.length → l[i] ≠ 92) : inR o q sl (l.drop i) = l[i] :: inR o q sl (l.drop (i + 1)) := by
  rw [List.drop_eq_getElem_cons h]
  by_cases h2 : i + 1 < l.length
  · rw [List.drop_eq_getElem_cons h2, inR, if_neg (hd h2), if_neg hc]
  · rw [List.drop_eq_nil_of_le (by omega), inR_1, if_neg hc]; rfl
theorem u8_beq (x y : UInt8) : ((x.toNat : Int) == (y.toNat : Int)) = (x == y) := by
  by_cases h : x = y
  · rw [h]; simp
  · rw [u8_neq h]; simp [h]
theorem u8_bne (x y : UInt8) : ((x.toNat : Int) != (y.toNat : Int)) = !(x == y) := by rw [bne, u8_beq]
set_option maxRecDepth 100000 in
set_option maxHeartbeats 4000000 in
theorem inter_r (s : ByteArray) (hs : s.size ≤ 100000) (o q : UInt8) (hq : partR (o.toNat : Int) = (q.toNat : Int)) (sl : Bool) (w : World) :
    Calls Tryz.prog 71 #[.string s, .int .u8 (o.toNat : Int), .bool sl] w fun e w' => e = .returned (.string (ba (inR o q sl s.data.toList))) ∧ Gr w w' := by
  have HP := Lib.hid (fun w => partner_r (o.toNat : Int) w)
  rw [hq] at HP
  obtain ⟨l, hl⟩ : ∃ l, l = s.data.toList := ⟨_, rfl⟩
  have hsz : s.size = l.length := by rw [hl, ← sizeL]
  have HB := Lib.hid (fun n (h : n < s.size) (h' : n < l.length) => (show s[n] = l[n] by subst hl; exact byteE s n h h'))
  have HX := Lib.hid (fun n (h' : n < l.length) => (show (s.extract n (n + 1)).data.toList = [l[n]] by
    subst hl; rw [extractE, List.drop_eq_getElem_cons h']; simp))
  have Hsz := Lib.hid hsz
  rw [← hl]
  obtain ⟨R, hR⟩ : ∃ R : ByteArray, R = ba (inR o q sl l) := ⟨_, rfl⟩
  rw [← hR]
  have HR : Hid (R.data.toList = inR o q sl l) := Lib.hid (by rw [hR, ba_data])
  have HL : Hid ((inR o q sl l).length ≤ 2 * s.size) := Lib.hid (by rw [hsz]; exact inR_len o q sl l)
  clear hl hsz hR hq
  go_enter Tryz.func71, Tryz.ntmps71
  go_wp2_with fail
  go_loopw [7, 8] (fun ov iv wr => ∃ (i : Nat) (u : ByteArray), iv = .int .i64 (i : Int) ∧ ov = .string u ∧ i ≤ s.size ∧ Hid (R.data.toList = u.data.toList ++ inR o q sl (l.drop i)) ∧ Gr w wr) (fun _ iv _ => leftTo s.size iv)
  case atStart => exact ⟨0, _, rfl, rfl, Nat.zero_le _, Lib.hid (by rw [HR.out]; rfl), Gr.refl w⟩
  case round =>
    obtain ⟨i, u, rfl, rfl, hi, hO, hG⟩ := hrel
    have Gg := Lib.hid hG
    have hus : u.size ≤ 200000 := by
      have h1 := congrArg List.length hO.out
      rw [HR.out, List.length_append, sizeL] at h1
      have := HL.out; omega
    have hui : (u.size : Int) ≤ 200000 := by omega
    clear hG HR HL hus
    by_cases hc : i < s.size
    · have hci : (i : Int) < (s.size : Int) := by omega
      have hL : i < l.length := by rw [← Hsz.out]; exact hc
      have ex := HB.out i hc hL
      have hX := Lib.hid (HX.out i hL)
      have hi1 : (i : Int) + 1 ≤ 9223372036854775807 := by omega
      have hi2 : -9223372036854775808 ≤ (i : Int) + 1 := by omega
      by_cases h1 : l[i] = 92
      · have t1 : ((l[i].toNat : Int) == 92) = true := by rw [h1]; rfl
        by_cases hd : i + 1 < s.size
        · have hL2 : i + 1 < l.length := by rw [← Hsz.out]; exact hd
          obtain ⟨k, hk⟩ : ∃ k, k = i + 1 := ⟨_, rfl⟩
          have Hk := Lib.hid hk
          have ek : (i : Int) + 1 = (k : Int) := by omega
          have hdk : (k : Int) < (s.size : Int) := by omega
          have hk1 : (k : Int) + 1 ≤ 9223372036854775807 := by omega
          have hk2 : -9223372036854775808 ≤ (k : Int) + 1 := by omega
          have hLk : k < l.length := by rw [hk]; exact hL2
          have hds : k < s.size := by rw [hk]; exact hd
          have ey := HB.out k hds hLk
          have hY := Lib.hid (HX.out k hLk)
          have hgo : Hid (goesB o q sl l[k] = true → R.data.toList = (u.data.toList ++ [l[k]]) ++ inR o q sl (l.drop (i + 2))) := Lib.hid (by subst hk; intro hg; rw [hO.out, inR_go hL hL2 h1 hg]; simp)
          have hst : Hid (goesB o q sl l[k] = false → R.data.toList = (u.data.toList ++ [92] ++ [l[k]]) ++ inR o q sl (l.drop (i + 2))) := Lib.hid (by subst hk; intro hg; rw [hO.out, inR_stay hL hL2 h1 hg]; simp)
          clear hO
          generalize l[i] = x at *
          generalize l[k] = y at *
          have b1 := u8_beq y o
          have b2 := u8_beq y q
          have b3 : ((y.toNat : Int) != 34) = !(y == 34) := u8_bne y 34
          have b4 : ((y.toNat : Int) != 92) = !(y == 92) := u8_bne y 92
          have b5 : ((y.toNat : Int) == 47) = (y == 47) := u8_beq y 47
          clear hi1 hi2 h1 HB HX hL hLk hk hL2 hd
          cases ho : (y == o) with
          | true =>
            cases h34 : (y == 34) with
            | true =>
              cases sl with
              | false =>
                have hg : goesB o q false y = false := by simp [goesB, ho, h34]
                have hO2 := Lib.hid (hst.out hg)
                rw [ho] at b1
                rw [h34] at b3
                simp only [Bool.not_true] at b3
                clear hg hgo hst ho h34 b2 b4 b5
                go_wp2_with fail
                go_roundw
                case rel => exact ⟨i + 2, _, by congr 1; have := Hk.out; omega, rfl, by have := Hk.out; omega, Lib.hid (by rw [ByteArray.data_append, Array.toList_append, hY.out, ByteArray.data_append, Array.toList_append]; exact hO2.out), Gg.out⟩
                case measure => simp only [leftTo]; have := Hk.out; omega
              | true =>
                cases h47 : (y == 47) with
                | true =>
                  have hg : goesB o q true y = true := by simp [goesB, ho, h34, h47]
                  have hO2 := Lib.hid (hgo.out hg)
                  rw [ho] at b1
                  rw [h34] at b3
                  rw [h47] at b5
                  simp only [Bool.not_true] at b3
                  clear hg hgo hst ho h34 h47 b2 b4
                  go_wp2_with fail
                  go_roundw
                  case rel => exact ⟨i + 2, _, by congr 1; have := Hk.out; omega, rfl, by have := Hk.out; omega, Lib.hid (by rw [ByteArray.data_append, Array.toList_append, hY.out]; exact hO2.out), Gg.out⟩
                  case measure => simp only [leftTo]; have := Hk.out; omega
                | false =>
                  have hg : goesB o q true y = false := by simp [goesB, ho, h34, h47]
                  have hO2 := Lib.hid (hst.out hg)
                  rw [ho] at b1
                  rw [h34] at b3
                  rw [h47] at b5
                  simp only [Bool.not_true] at b3
                  clear hg hgo hst ho h34 h47 b2 b4
                  go_wp2_with fail
                  go_roundw
                  case rel => exact ⟨i + 2, _, by congr 1; have := Hk.out; omega, rfl, by have := Hk.out; omega, Lib.hid (by rw [ByteArray.data_append, Array.toList_append, hY.out, ByteArray.data_append, Array.toList_append]; exact hO2.out), Gg.out⟩
                  case measure => simp only [leftTo]; have := Hk.out; omega
            | false =>
              cases h92 : (y == 92) with
              | true =>
                cases sl with
                | false =>
                  have hg : goesB o q false y = false := by simp [goesB, ho, h34, h92]
                  have hO2 := Lib.hid (hst.out hg)
                  rw [ho] at b1
                  rw [h34] at b3
                  rw [h92] at b4
                  simp only [Bool.not_false] at b3
                  simp only [Bool.not_true] at b4
                  clear hg hgo hst ho h34 h92 b2 b5
                  go_wp2_with fail
                  go_roundw
                  case rel => exact ⟨i + 2, _, by congr 1; have := Hk.out; omega, rfl, by have := Hk.out; omega, Lib.hid (by rw [ByteArray.data_append, Array.toList_append, hY.out, ByteArray.data_append, Array.toList_append]; exact hO2.out), Gg.out⟩
                  case measure => simp only [leftTo]; have := Hk.out; omega
                | true =>
                  cases h47 : (y == 47) with
                  | true =>
                    have hg : goesB o q true y = true := by simp [goesB, ho, h34, h92, h47]
                    have hO2 := Lib.hid (hgo.out hg)
                    rw [ho] at b1
                    rw [h34] at b3
                    rw [h92] at b4
                    rw [h47] at b5
                    simp only [Bool.not_false] at b3
                    simp only [Bool.not_true] at b4
                    clear hg hgo hst ho h34 h92 h47 b2
                    go_wp2_with fail
                    go_roundw
                    case rel => exact ⟨i + 2, _, by congr 1; have := Hk.out; omega, rfl, by have := Hk.out; omega, Lib.hid (by rw [ByteArray.data_append, Array.toList_append, hY.out]; exact hO2.out), Gg.out⟩
                    case measure => simp only [leftTo]; have := Hk.out; omega
                  | false =>
                    have hg : goesB o q true y = false := by simp [goesB, ho, h34, h92, h47]
                    have hO2 := Lib.hid (hst.out hg)
                    rw [ho] at b1
                    rw [h34] at b3
                    rw [h92] at b4
                    rw [h47] at b5
                    simp only [Bool.not_false] at b3
                    simp only [Bool.not_true] at b4
                    clear hg hgo hst ho h34 h92 h47 b2
                    go_wp2_with fail
                    go_roundw
                    case rel => exact ⟨i + 2, _, by congr 1; have := Hk.out; omega, rfl, by have := Hk.out; omega, Lib.hid (by rw [ByteArray.data_append, Array.toList_append, hY.out, ByteArray.data_append, Array.toList_append]; exact hO2.out), Gg.out⟩
                    case measure => simp only [leftTo]; have := Hk.out; omega
              | false =>
                have hg : goesB o q sl y = true := by simp [goesB, ho, h34, h92]
                have hO2 := Lib.hid (hgo.out hg)
                rw [ho] at b1
                rw [h34] at b3
                rw [h92] at b4
                simp only [Bool.not_false] at b3
                simp only [Bool.not_false] at b4
                clear hg hgo hst ho h34 h92 b2 b5
                go_wp2_with fail
                go_roundw
                case rel => exact ⟨i + 2, _, by congr 1; have := Hk.out; omega, rfl, by have := Hk.out; omega, Lib.hid (by rw [ByteArray.data_append, Array.toList_append, hY.out]; exact hO2.out), Gg.out⟩
                case measure => simp only [leftTo]; have := Hk.out; omega
          | false =>
            cases hq : (y == q) with
            | true =>
              cases h34 : (y == 34) with
              | true =>
                cases sl with
                | false =>
                  have hg : goesB o q false y = false := by simp [goesB, ho, hq, h34]
                  have hO2 := Lib.hid (hst.out hg)
                  rw [ho] at b1
                  rw [hq] at b2
                  rw [h34] at b3
                  simp only [Bool.not_true] at b3
                  clear hg hgo hst ho hq h34 b4 b5
                  go_wp2_with fail
                  refine (HP.out _).mono ?_
                  rintro e w2 ⟨rfl, rfl⟩
                  go_wp2_with fail
                  go_roundw
                  case rel => exact ⟨i + 2, _, by congr 1; have := Hk.out; omega, rfl, by have := Hk.out; omega, Lib.hid (by rw [ByteArray.data_append, Array.toList_append, hY.out, ByteArray.data_append, Array.toList_append]; exact hO2.out), Gg.out⟩
                  case measure => simp only [leftTo]; have := Hk.out; omega
                | true =>
                  cases h47 : (y == 47) with
                  | true =>
                    have hg : goesB o q true y = true := by simp [goesB, ho, hq, h34, h47]
                    have hO2 := Lib.hid (hgo.out hg)
                    rw [ho] at b1
                    rw [hq] at b2
                    rw [h34] at b3
                    rw [h47] at b5
                    simp only [Bool.not_true] at b3
                    clear hg hgo hst ho hq h34 h47 b4
                    go_wp2_with fail
                    refine (HP.out _).mono ?_
                    rintro e w2 ⟨rfl, rfl⟩
                    go_wp2_with fail
                    go_roundw
                    case rel => exact ⟨i + 2, _, by congr 1; have := Hk.out; omega, rfl, by have := Hk.out; omega, Lib.hid (by rw [ByteArray.data_append, Array.toList_append, hY.out]; exact hO2.out), Gg.out⟩
                    case measure => simp only [leftTo]; have := Hk.out; omega
                  | false =>
                    have hg : goesB o q true y = false := by simp [goesB, ho, hq, h34, h47]
                    have hO2 := Lib.hid (hst.out hg)
                    rw [ho] at b1
                    rw [hq] at b2
                    rw [h34] at b3
                    rw [h47] at b5
                    simp only [Bool.not_true] at b3
                    clear hg hgo hst ho hq h34 h47 b4
                    go_wp2_with fail
                    refine (HP.out _).mono ?_
                    rintro e w2 ⟨rfl, rfl⟩
                    go_wp2_with fail
                    go_roundw
                    case rel => exact ⟨i + 2, _, by congr 1; have := Hk.out; omega, rfl, by have := Hk.out; omega, Lib.hid (by rw [ByteArray.data_append, Array.toList_append, hY.out, ByteArray.data_append, Array.toList_append]; exact hO2.out), Gg.out⟩
                    case measure => simp only [leftTo]; have := Hk.out; omega
              | false =>
                cases h92 : (y == 92) with
                | true =>
                  cases sl with
                  | false =>
                    have hg : goesB o q false y = false := by simp [goesB, ho, hq, h34, h92]
                    have hO2 := Lib.hid (hst.out hg)
                    rw [ho] at b1
                    rw [hq] at b2
                    rw [h34] at b3
                    rw [h92] at b4
                    simp only [Bool.not_false] at b3
                    simp only [Bool.not_true] at b4
                    clear hg hgo hst ho hq h34 h92 b5
                    go_wp2_with fail
                    refine (HP.out _).mono ?_
                    rintro e w2 ⟨rfl, rfl⟩
                    go_wp2_with fail
                    go_roundw
                    case rel => exact ⟨i + 2, _, by congr 1; have := Hk.out; omega, rfl, by have := Hk.out; omega, Lib.hid (by rw [ByteArray.data_append, Array.toList_append, hY.out, ByteArray.data_append, Array.toList_append]; exact hO2.out), Gg.out⟩
                    case measure => simp only [leftTo]; have := Hk.out; omega
                  | true =>
                    cases h47 : (y == 47) with
                    | true =>
                      have hg : goesB o q true y = true := by simp [goesB, ho, hq, h34, h92, h47]
                      have hO2 := Lib.hid (hgo.out hg)
                      rw [ho] at b1
                      rw [hq] at b2
                      rw [h34] at b3
                      rw [h92] at b4
                      rw [h47] at b5
                      simp only [Bool.not_false] at b3
                      simp only [Bool.not_true] at b4
                      clear hg hgo hst ho hq h34 h92 h47 
                      go_wp2_with fail
                      refine (HP.out _).mono ?_
                      rintro e w2 ⟨rfl, rfl⟩
                      go_wp2_with fail
                      go_roundw
                      case rel => exact ⟨i + 2, _, by congr 1; have := Hk.out; omega, rfl, by have := Hk.out; omega, Lib.hid (by rw [ByteArray.data_append, Array.toList_append, hY.out]; exact hO2.out), Gg.out⟩
                      case measure => simp only [leftTo]; have := Hk.out; omega
                    | false =>
                      have hg : goesB o q true y = false := by simp [goesB, ho, hq, h34, h92, h47]
                      have hO2 := Lib.hid (hst.out hg)
                      rw [ho] at b1
                      rw [hq] at b2
                      rw [h34] at b3
                      rw [h92] at b4
                      rw [h47] at b5
                      simp only [Bool.not_false] at b3
                      simp only [Bool.not_true] at b4
                      clear hg hgo hst ho hq h34 h92 h47 
                      go_wp2_with fail
                      refine (HP.out _).mono ?_
                      rintro e w2 ⟨rfl, rfl⟩
                      go_wp2_with fail
                      go_roundw
                      case rel => exact ⟨i + 2, _, by congr 1; have := Hk.out; omega, rfl, by have := Hk.out; omega, Lib.hid (by rw [ByteArray.data_append, Array.toList_append, hY.out, ByteArray.data_append, Array.toList_append]; exact hO2.out), Gg.out⟩
                      case measure => simp only [leftTo]; have := Hk.out; omega
                | false =>
                  have hg : goesB o q sl y = true := by simp [goesB, ho, hq, h34, h92]
                  have hO2 := Lib.hid (hgo.out hg)
                  rw [ho] at b1
                  rw [hq] at b2
                  rw [h34] at b3
                  rw [h92] at b4
                  simp only [Bool.not_false] at b3
                  simp only [Bool.not_false] at b4
                  clear hg hgo hst ho hq h34 h92 b5
                  go_wp2_with fail
                  refine (HP.out _).mono ?_
                  rintro e w2 ⟨rfl, rfl⟩
                  go_wp2_with fail
                  go_roundw
                  case rel => exact ⟨i + 2, _, by congr 1; have := Hk.out; omega, rfl, by have := Hk.out; omega, Lib.hid (by rw [ByteArray.data_append, Array.toList_append, hY.out]; exact hO2.out), Gg.out⟩
                  case measure => simp only [leftTo]; have := Hk.out; omega
            | false =>
              cases sl with
              | false =>
                have hg : goesB o q false y = false := by simp [goesB, ho, hq]
                have hO2 := Lib.hid (hst.out hg)
                rw [ho] at b1
                rw [hq] at b2
                clear hg hgo hst ho hq b3 b4 b5
                go_wp2_with fail
                refine (HP.out _).mono ?_
                rintro e w2 ⟨rfl, rfl⟩
                go_wp2_with fail
                go_roundw
                case rel => exact ⟨i + 2, _, by congr 1; have := Hk.out; omega, rfl, by have := Hk.out; omega, Lib.hid (by rw [ByteArray.data_append, Array.toList_append, hY.out, ByteArray.data_append, Array.toList_append]; exact hO2.out), Gg.out⟩
                case measure => simp only [leftTo]; have := Hk.out; omega
              | true =>
                cases h47 : (y == 47) with
                | true =>
                  have hg : goesB o q true y = true := by simp [goesB, ho, hq, h47]
                  have hO2 := Lib.hid (hgo.out hg)
                  rw [ho] at b1
                  rw [hq] at b2
                  rw [h47] at b5
                  clear hg hgo hst ho hq h47 b3 b4
                  go_wp2_with fail
                  refine (HP.out _).mono ?_
                  rintro e w2 ⟨rfl, rfl⟩
                  go_wp2_with fail
                  go_roundw
                  case rel => exact ⟨i + 2, _, by congr 1; have := Hk.out; omega, rfl, by have := Hk.out; omega, Lib.hid (by rw [ByteArray.data_append, Array.toList_append, hY.out]; exact hO2.out), Gg.out⟩
                  case measure => simp only [leftTo]; have := Hk.out; omega
                | false =>
                  have hg : goesB o q true y = false := by simp [goesB, ho, hq, h47]
                  have hO2 := Lib.hid (hst.out hg)
                  rw [ho] at b1
                  rw [hq] at b2
                  rw [h47] at b5
                  clear hg hgo hst ho hq h47 b3 b4
                  go_wp2_with fail
                  refine (HP.out _).mono ?_
                  rintro e w2 ⟨rfl, rfl⟩
                  go_wp2_with fail
                  go_roundw
                  case rel => exact ⟨i + 2, _, by congr 1; have := Hk.out; omega, rfl, by have := Hk.out; omega, Lib.hid (by rw [ByteArray.data_append, Array.toList_append, hY.out, ByteArray.data_append, Array.toList_append]; exact hO2.out), Gg.out⟩
                  case measure => simp only [leftTo]; have := Hk.out; omega
        · have hst := Lib.hid (inR_one (o := o) (q := q) (sl := sl) hL (by rw [h1]; decide) (fun h2 => absurd (by rw [Hsz.out]; exact h2) hd))
          have hdk : decide ((i : Int) + 1 < (s.size : Int)) = false := by simp; omega
          have hdk2 : ¬ (i : Int) + 1 < (s.size : Int) := by omega
          have t2 : ((l[i].toNat : Int) == 34) = false := by rw [h1]; rfl
          have hO2 : Hid (R.data.toList = (u.data.toList ++ [l[i]]) ++ inR o q sl (l.drop (i + 1))) := Lib.hid (by rw [hO.out, hst.out]; simp)
          generalize l[i] = x at *
          clear h1 HB HX hO hst hL hd
          go_wp2_with fail
          go_roundw
          case rel => exact ⟨i + 1, _, rfl, rfl, by omega, Lib.hid (by rw [ByteArray.data_append, Array.toList_append, hX.out]; exact hO2.out), Gg.out⟩
          case measure => simp only [leftTo]; omega
      · have t1 : ((l[i].toNat : Int) == 92) = false := u8_neq (y := 92) h1
        by_cases h2 : l[i] = 34
        · have t2 : ((l[i].toNat : Int) == 34) = true := by rw [h2]; rfl
          have hO2 : Hid (R.data.toList = (u.data.toList ++ [92, 34]) ++ inR o q sl (l.drop (i + 1))) := Lib.hid (by rw [hO.out, inR_quo hL h2]; simp)
          generalize l[i] = x at *
          clear h1 h2 HB HX hO hL
          go_wp2_with fail
          go_roundw
          case rel => exact ⟨i + 1, _, rfl, rfl, by omega, Lib.hid (by rw [ByteArray.data_append, Array.toList_append]; exact hO2.out), Gg.out⟩
          case measure => simp only [leftTo]; omega
        · have t2 : ((l[i].toNat : Int) == 34) = false := u8_neq (y := 34) h2
          have hst := Lib.hid (inR_one (o := o) (q := q) (sl := sl) hL h2 (fun _ => h1))
          have hO2 : Hid (R.data.toList = (u.data.toList ++ [l[i]]) ++ inR o q sl (l.drop (i + 1))) := Lib.hid (by rw [hO.out, hst.out]; simp)
          generalize l[i] = x at *
          clear h1 h2 HB HX hO hst hL
          go_wp2_with fail
          go_roundw
          case rel => exact ⟨i + 1, _, rfl, rfl, by omega, Lib.hid (by rw [ByteArray.data_append, Array.toList_append, hX.out]; exact hO2.out), Gg.out⟩
          case measure => simp only [leftTo]; omega
    · have hci : decide ((i : Int) < (s.size : Int)) = false := by simp; omega
      have hci2 : ¬ (i : Int) < (s.size : Int) := by omega
      have HE : Hid (u = R) := Lib.hid (by
        have := hO.out
        rw [List.drop_eq_nil_of_le (by rw [← Hsz.out]; omega)] at this
        exact ba_eq (by rw [this]; simp [inR]))
      clear HB HX hc hO
      go_wp2_with fail
      go_ret
      exact ⟨by rw [HE.out]; rfl, Gg.out⟩
end Go.Proofs.YthmopindibdhnaaGreatDoor.G
