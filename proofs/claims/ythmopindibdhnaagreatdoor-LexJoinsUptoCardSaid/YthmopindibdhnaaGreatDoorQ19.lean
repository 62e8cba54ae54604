import Derived.Test.YthmopindibdhnaaGreatDoorQ00
import Derived.Test.YthmopindibdhnaaGreatDoorQ18
import Derived.Test.YthmopindibdhnaaGreatDoorQ11
import Derived.Deep.RegionLaw
import Derived.Deep.Cut
namespace Go.Proofs.YthmopindibdhnaaGreatDoor.G
open Go.RowKit Go.Shelf Go.Maps
def goesB (o q : UInt8) (sl : Bool) (y : UInt8) : Bool := (((y == o || y == q) && !(y == 34)) && !(y == 92)) || (sl && y == 47)
def inR (o q : UInt8) (sl : Bool) : List UInt8 → List UInt8
 | [] => []
 | [x] => if x = 34 then [92, 34] else [x]
 | x :: y :: t => if x = 92 then (if goesB o q sl y = true then y :: inR o q sl t else 92 :: y :: inR o q sl t) else if x = 34 then 92 :: 34 :: inR o q sl (y :: t) else x :: inR o q sl (y :: t)
theorem inR_len (o q : UInt8) (sl : Bool) : ∀ l, (inR o q sl l).length ≤ 2 * l.length
 | [] => Nat.le_refl _
 | [x] => by rw [inR]; split <;> simp
 | x :: y :: t => by
  have h1 := inR_len o q sl t
  have h2 := inR_len o q sl (y :: t)
  simp only [List.length_cons] at h2
  rw [inR]
  split
  ·split <;> simp only [List.length_cons] <;> omega
  ·split <;> simp only [List.length_cons] <;> omega
variable {o q : UInt8} {sl : Bool} {l : List UInt8} {i : Nat}
theorem inR_go (h : i < l.length) (h2 : i + 1 < l.length) (hc : l[i] = 92) (hg : goesB o q sl l[i + 1] = true) : inR o q sl (l.drop i) = l[i + 1] :: inR o q sl (l.drop (i + 2)) := by
 rw [List.drop_eq_getElem_cons h, List.drop_eq_getElem_cons h2, inR, if_pos hc, if_pos hg]
theorem inR_stay (h : i < l.length) (h2 : i + 1 < l.length) (hc : l[i] = 92) (hg : goesB o q sl l[i + 1] = false) : inR o q sl (l.drop i) = 92 :: l[i + 1] :: inR o q sl (l.drop (i + 2)) := by
 rw [List.drop_eq_getElem_cons h, List.drop_eq_getElem_cons h2, inR, if_pos hc, if_neg (by rw [hg]; decide)]
theorem inR_1 (o q : UInt8) (sl : Bool) (x : UInt8) : inR o q sl [x] = if x = 34 then [92, 34] else [x] := by rw [inR]
theorem inR_quo (h : i < l.length) (hc : l[i] = 34) : inR o q sl (l.drop i) = 92 :: 34 :: inR o q sl (l.drop (i + 1)) := by
 rw [List.drop_eq_getElem_cons h]
 by_cases h2 : i + 1 < l.length
 ·rw [List.drop_eq_getElem_cons h2, inR, if_neg (by rw [hc]; decide), if_pos hc]
 ·rw [List.drop_eq_nil_of_le (by omega), inR_1, if_pos hc]; rfl
theorem inR_one (h : i < l.length) (hc : l[i] ≠ 34) (hd : i + 1 < l.length → l[i] ≠ 92) : inR o q sl (l.drop i) = l[i] :: inR o q sl (l.drop (i + 1)) := by
 rw [List.drop_eq_getElem_cons h]
 by_cases h2 : i + 1 < l.length
 ·rw [List.drop_eq_getElem_cons h2, inR, if_neg (hd h2), if_neg hc]
 ·rw [List.drop_eq_nil_of_le (by omega), inR_1, if_neg hc]; rfl
theorem u8_beq (x y : UInt8) : ((x.toNat : Int) == (y.toNat : Int)) = (x == y) := by
 by_cases h : x = y
 ·rw [h]; simp
 ·rw [u8_neq h]; simp [h]
theorem u8_bne (x y : UInt8) : ((x.toNat : Int) != (y.toNat : Int)) = !(x == y) := by rw [bne, u8_beq]
set_option maxRecDepth 100000 in
set_option maxHeartbeats 4000000 in
theorem inter_r (s : ByteArray) (hs : s.size ≤ 100000) (o q : UInt8) (hq : partR (o.toNat : Int) = (q.toNat : Int)) (sl : Bool) (w : World) :
  Calls Tryz.prog 71 #[.string s, .int .u8 (o.toNat : Int), .bool sl] w fun e w' => e = .returned (.string (ba (inR o q sl s.data.toList))) ∧ Gr w w' := by
 have HP := Lh (fun w => partner_r (o.toNat : Int) w)
 rw [hq] at HP
 obtain ⟨l, hl⟩ : ∃ l, l = s.data.toList := ⟨_, rfl⟩
 have hsz : s.size = l.length := by rw [hl, ← sizeL]
 have HB := Lh (fun n (h : n < s.size) (h' : n < l.length) => (show s[n] = l[n] by subst hl; exact byteE s n h h'))
 have HX := Lh (fun n (h' : n < l.length) => (show (s.extract n (n + 1)).data.toList = [l[n]] by
  subst hl; rw [extractE, List.drop_eq_getElem_cons h']; simp))
 have Hsz := Lh hsz
 rw [← hl]
 obtain ⟨R, hR⟩ : ∃ R : ByteArray, R = ba (inR o q sl l) := ⟨_, rfl⟩
 rw [← hR]
 have HR : Hid (R.data.toList = inR o q sl l) := Lh (by rw [hR, ba_data])
 have HL : Hid ((inR o q sl l).length ≤ 2 * s.size) := Lh (by rw [hsz]; exact inR_len o q sl l)
 clear hl hsz hR hq
 go_enter Tryz.func71, Tryz.ntmps71
 go_wp2_with fail
 go_loopw [7, 8] (fun ov iv wr => ∃ (i : Nat) (u : ByteArray), iv = .int .i64 (i : Int) ∧ ov = .string u ∧ i ≤ s.size ∧ Hid (R.data.toList = u.data.toList ++ inR o q sl (l.drop i)) ∧ Gr w wr) (fun _ iv _ => leftTo s.size iv)
 case atStart => exact ⟨0, _, rfl, rfl, Nat.zero_le _, Lh (by rw [HR.out]; rfl), Gr.refl w⟩
 case round =>
  obtain ⟨i, u, rfl, rfl, hi, hO, hG⟩ := hrel
  have Gg := Lh hG
  have hus : u.size ≤ 200000 := by
   have h1 := congrArg List.length hO.out
   rw [HR.out, List.length_append, sizeL] at h1
   have := HL.out; omega
  have hui : (u.size : Int) ≤ 200000 := by omega
  clear hG HR HL hus
  by_cases hc : i < s.size
  ·have hci : (i : Int) < (s.size : Int) := by omega
   have hL : i < l.length := by rw [← Hsz.out]; exact hc
   have ex := HB.out i hc hL
   have hX := Lh (HX.out i hL)
   have hi1 : (i : Int) + 1 ≤ 9223372036854775807 := by omega
   have hi2 : -9223372036854775808 ≤ (i : Int) + 1 := by omega
   by_cases h1 : l[i] = 92
   ·have t1 : ((l[i].toNat : Int) == 92) = true := by rw [h1]; rfl
    by_cases hd : i + 1 < s.size
    ·have hL2 : i + 1 < l.length := by rw [← Hsz.out]; exact hd
     obtain ⟨k, hk⟩ : ∃ k, k = i + 1 := ⟨_, rfl⟩
     have Hk := Lh hk
     have ek : (i : Int) + 1 = (k : Int) := by omega
     have hdk : (k : Int) < (s.size : Int) := by omega
     have hk1 : (k : Int) + 1 ≤ 9223372036854775807 := by omega
     have hk2 : -9223372036854775808 ≤ (k : Int) + 1 := by omega
     have hLk : k < l.length := by rw [hk]; exact hL2
     have hds : k < s.size := by rw [hk]; exact hd
     have ey := HB.out k hds hLk
     have hY := Lh (HX.out k hLk)
     have hgo : Hid (goesB o q sl l[k] = true → R.data.toList = (u.data.toList ++ [l[k]]) ++ inR o q sl (l.drop (i + 2))) := Lh (by subst hk; intro hg; rw [hO.out, inR_go hL hL2 h1 hg]; simp)
     have hst : Hid (goesB o q sl l[k] = false → R.data.toList = (u.data.toList ++ [92] ++ [l[k]]) ++ inR o q sl (l.drop (i + 2))) := Lh (by subst hk; intro hg; rw [hO.out, inR_stay hL hL2 h1 hg]; simp)
     clear hO
     generalize l[i] = x at *
     generalize l[k] = y at *
     have b1 := u8_beq y o
     have b2 := u8_beq y q
     have b3 : ((y.toNat : Int) != 34) = !(y == 34) := u8_bne y 34
     have b4 : ((y.toNat : Int) != 92) = !(y == 92) := u8_bne y 92
     have b5 : ((y.toNat : Int) == 47) = (y == 47) := u8_beq y 47
     clear hi1 hi2 h1 HB HX hL hLk hk hL2 hd
     cases ho : (y == o) with
     | true =>
      cases h34 : (y == 34) with
      | true =>
       cases sl with
       | false =>
        have hg : goesB o q false y = false := by simp [goesB, ho, h34]
        have hO2 := Lh (hst.out hg)
        rw [ho] at b1
        rw [h34] at b3
        simp only [Bool.not_true] at b3
        clear hg hgo hst ho h34 b2 b4 b5
        go_wp2_with fail
        go_roundw
        case rel => exact ⟨i + 2, _, by congr 1; have := Hk.out; omega, rfl, by have := Hk.out; omega, Lh (by rw [ByteArray.data_append, Array.toList_append, hY.out, ByteArray.data_append, Array.toList_append]; exact hO2.out), Gg.out⟩
        case measure => simp only [leftTo]; have := Hk.out; omega
       | true =>
        cases h47 : (y == 47) with
        | true =>
         have hg : goesB o q true y = true := by simp [goesB, ho, h34, h47]
         have hO2 := Lh (hgo.out hg)
         rw [ho] at b1
         rw [h34] at b3
         rw [h47] at b5
         simp only [Bool.not_true] at b3
         clear hg hgo hst ho h34 h47 b2 b4
         go_wp2_with fail
         go_roundw
         case rel => exact ⟨i + 2, _, by congr 1; have := Hk.out; omega, rfl, by have := Hk.out; omega, Lh (by rw [ByteArray.data_append, Array.toList_append, hY.out]; exact hO2.out), Gg.out⟩
         case measure => simp only [leftTo]; have := Hk.out; omega
        | false =>
         have hg : goesB o q true y = false := by simp [goesB, ho, h34, h47]
         have hO2 := Lh (hst.out hg)
         rw [ho] at b1
         rw [h34] at b3
         rw [h47] at b5
         simp only [Bool.not_true] at b3
         clear hg hgo hst ho h34 h47 b2 b4
         go_wp2_with fail
         go_roundw
         case rel => exact ⟨i + 2, _, by congr 1; have := Hk.out; omega, rfl, by have := Hk.out; omega, Lh (by rw [ByteArray.data_append, Array.toList_append, hY.out, ByteArray.data_append, Array.toList_append]; exact hO2.out), Gg.out⟩
         case measure => simp only [leftTo]; have := Hk.out; omega
      | false =>
       cases h92 : (y == 92) with
       | true =>
        cases sl with
        | false =>
         have hg : goesB o q false y = false := by simp [goesB, ho, h34, h92]
         have hO2 := Lh (hst.out hg)
         rw [ho] at b1
         rw [h34] at b3
         rw [h92] at b4
         simp only [Bool.not_false] at b3
         simp only [Bool.not_true] at b4
         clear hg hgo hst ho h34 h92 b2 b5
         go_wp2_with fail
         go_roundw
         case rel => exact ⟨i + 2, _, by congr 1; have := Hk.out; omega, rfl, by have := Hk.out; omega, Lh (by rw [ByteArray.data_append, Array.toList_append, hY.out, ByteArray.data_append, Array.toList_append]; exact hO2.out), Gg.out⟩
         case measure => simp only [leftTo]; have := Hk.out; omega
        | true =>
         cases h47 : (y == 47) with
         | true =>
          have hg : goesB o q true y = true := by simp [goesB, ho, h34, h92, h47]
          have hO2 := Lh (hgo.out hg)
          rw [ho] at b1
          rw [h34] at b3
          rw [h92] at b4
          rw [h47] at b5
          simp only [Bool.not_false] at b3
          simp only [Bool.not_true] at b4
          clear hg hgo hst ho h34 h92 h47 b2
          go_wp2_with fail
          go_roundw
          case rel => exact ⟨i + 2, _, by congr 1; have := Hk.out; omega, rfl, by have := Hk.out; omega, Lh (by rw [ByteArray.data_append, Array.toList_append, hY.out]; exact hO2.out), Gg.out⟩
          case measure => simp only [leftTo]; have := Hk.out; omega
         | false =>
          have hg : goesB o q true y = false := by simp [goesB, ho, h34, h92, h47]
          have hO2 := Lh (hst.out hg)
          rw [ho] at b1
          rw [h34] at b3
          rw [h92] at b4
          rw [h47] at b5
          simp only [Bool.not_false] at b3
          simp only [Bool.not_true] at b4
          clear hg hgo hst ho h34 h92 h47 b2
          go_wp2_with fail
          go_roundw
          case rel => exact ⟨i + 2, _, by congr 1; have := Hk.out; omega, rfl, by have := Hk.out; omega, Lh (by rw [ByteArray.data_append, Array.toList_append, hY.out, ByteArray.data_append, Array.toList_append]; exact hO2.out), Gg.out⟩
          case measure => simp only [leftTo]; have := Hk.out; omega
       | false =>
        have hg : goesB o q sl y = true := by simp [goesB, ho, h34, h92]
        have hO2 := Lh (hgo.out hg)
        rw [ho] at b1
        rw [h34] at b3
        rw [h92] at b4
        simp only [Bool.not_false] at b3
        simp only [Bool.not_false] at b4
        clear hg hgo hst ho h34 h92 b2 b5
        go_wp2_with fail
        go_roundw
        case rel => exact ⟨i + 2, _, by congr 1; have := Hk.out; omega, rfl, by have := Hk.out; omega, Lh (by rw [ByteArray.data_append, Array.toList_append, hY.out]; exact hO2.out), Gg.out⟩
        case measure => simp only [leftTo]; have := Hk.out; omega
     | false =>
      cases hq : (y == q) with
      | true =>
       cases h34 : (y == 34) with
       | true =>
        cases sl with
        | false =>
         have hg : goesB o q false y = false := by simp [goesB, ho, hq, h34]
         have hO2 := Lh (hst.out hg)
         rw [ho] at b1
         rw [hq] at b2
         rw [h34] at b3
         simp only [Bool.not_true] at b3
         clear hg hgo hst ho hq h34 b4 b5
         go_wp2_with fail
         refine (HP.out _).mono ?_
         rintro e w2 ⟨rfl, rfl⟩
         go_wp2_with fail
         go_roundw
         case rel => exact ⟨i + 2, _, by congr 1; have := Hk.out; omega, rfl, by have := Hk.out; omega, Lh (by rw [ByteArray.data_append, Array.toList_append, hY.out, ByteArray.data_append, Array.toList_append]; exact hO2.out), Gg.out⟩
         case measure => simp only [leftTo]; have := Hk.out; omega
        | true =>
         cases h47 : (y == 47) with
         | true =>
          have hg : goesB o q true y = true := by simp [goesB, ho, hq, h34, h47]
          have hO2 := Lh (hgo.out hg)
          rw [ho] at b1
          rw [hq] at b2
          rw [h34] at b3
          rw [h47] at b5
          simp only [Bool.not_true] at b3
          clear hg hgo hst ho hq h34 h47 b4
          go_wp2_with fail
          refine (HP.out _).mono ?_
          rintro e w2 ⟨rfl, rfl⟩
          go_wp2_with fail
          go_roundw
          case rel => exact ⟨i + 2, _, by congr 1; have := Hk.out; omega, rfl, by have := Hk.out; omega, Lh (by rw [ByteArray.data_append, Array.toList_append, hY.out]; exact hO2.out), Gg.out⟩
          case measure => simp only [leftTo]; have := Hk.out; omega
         | false =>
          have hg : goesB o q true y = false := by simp [goesB, ho, hq, h34, h47]
          have hO2 := Lh (hst.out hg)
          rw [ho] at b1
          rw [hq] at b2
          rw [h34] at b3
          rw [h47] at b5
          simp only [Bool.not_true] at b3
          clear hg hgo hst ho hq h34 h47 b4
          go_wp2_with fail
          refine (HP.out _).mono ?_
          rintro e w2 ⟨rfl, rfl⟩
          go_wp2_with fail
          go_roundw
          case rel => exact ⟨i + 2, _, by congr 1; have := Hk.out; omega, rfl, by have := Hk.out; omega, Lh (by rw [ByteArray.data_append, Array.toList_append, hY.out, ByteArray.data_append, Array.toList_append]; exact hO2.out), Gg.out⟩
          case measure => simp only [leftTo]; have := Hk.out; omega
       | false =>
        cases h92 : (y == 92) with
        | true =>
         cases sl with
         | false =>
          have hg : goesB o q false y = false := by simp [goesB, ho, hq, h34, h92]
          have hO2 := Lh (hst.out hg)
          rw [ho] at b1
          rw [hq] at b2
          rw [h34] at b3
          rw [h92] at b4
          simp only [Bool.not_false] at b3
          simp only [Bool.not_true] at b4
          clear hg hgo hst ho hq h34 h92 b5
          go_wp2_with fail
          refine (HP.out _).mono ?_
          rintro e w2 ⟨rfl, rfl⟩
          go_wp2_with fail
          go_roundw
          case rel => exact ⟨i + 2, _, by congr 1; have := Hk.out; omega, rfl, by have := Hk.out; omega, Lh (by rw [ByteArray.data_append, Array.toList_append, hY.out, ByteArray.data_append, Array.toList_append]; exact hO2.out), Gg.out⟩
          case measure => simp only [leftTo]; have := Hk.out; omega
         | true =>
          cases h47 : (y == 47) with
          | true =>
           have hg : goesB o q true y = true := by simp [goesB, ho, hq, h34, h92, h47]
           have hO2 := Lh (hgo.out hg)
           rw [ho] at b1
           rw [hq] at b2
           rw [h34] at b3
           rw [h92] at b4
           rw [h47] at b5
           simp only [Bool.not_false] at b3
           simp only [Bool.not_true] at b4
           clear hg hgo hst ho hq h34 h92 h47
           go_wp2_with fail
           refine (HP.out _).mono ?_
           rintro e w2 ⟨rfl, rfl⟩
           go_wp2_with fail
           go_roundw
           case rel => exact ⟨i + 2, _, by congr 1; have := Hk.out; omega, rfl, by have := Hk.out; omega, Lh (by rw [ByteArray.data_append, Array.toList_append, hY.out]; exact hO2.out), Gg.out⟩
           case measure => simp only [leftTo]; have := Hk.out; omega
          | false =>
           have hg : goesB o q true y = false := by simp [goesB, ho, hq, h34, h92, h47]
           have hO2 := Lh (hst.out hg)
           rw [ho] at b1
           rw [hq] at b2
           rw [h34] at b3
           rw [h92] at b4
           rw [h47] at b5
           simp only [Bool.not_false] at b3
           simp only [Bool.not_true] at b4
           clear hg hgo hst ho hq h34 h92 h47
           go_wp2_with fail
           refine (HP.out _).mono ?_
           rintro e w2 ⟨rfl, rfl⟩
           go_wp2_with fail
           go_roundw
           case rel => exact ⟨i + 2, _, by congr 1; have := Hk.out; omega, rfl, by have := Hk.out; omega, Lh (by rw [ByteArray.data_append, Array.toList_append, hY.out, ByteArray.data_append, Array.toList_append]; exact hO2.out), Gg.out⟩
           case measure => simp only [leftTo]; have := Hk.out; omega
        | false =>
         have hg : goesB o q sl y = true := by simp [goesB, ho, hq, h34, h92]
         have hO2 := Lh (hgo.out hg)
         rw [ho] at b1
         rw [hq] at b2
         rw [h34] at b3
         rw [h92] at b4
         simp only [Bool.not_false] at b3
         simp only [Bool.not_false] at b4
         clear hg hgo hst ho hq h34 h92 b5
         go_wp2_with fail
         refine (HP.out _).mono ?_
         rintro e w2 ⟨rfl, rfl⟩
         go_wp2_with fail
         go_roundw
         case rel => exact ⟨i + 2, _, by congr 1; have := Hk.out; omega, rfl, by have := Hk.out; omega, Lh (by rw [ByteArray.data_append, Array.toList_append, hY.out]; exact hO2.out), Gg.out⟩
         case measure => simp only [leftTo]; have := Hk.out; omega
      | false =>
       cases sl with
       | false =>
        have hg : goesB o q false y = false := by simp [goesB, ho, hq]
        have hO2 := Lh (hst.out hg)
        rw [ho] at b1
        rw [hq] at b2
        clear hg hgo hst ho hq b3 b4 b5
        go_wp2_with fail
        refine (HP.out _).mono ?_
        rintro e w2 ⟨rfl, rfl⟩
        go_wp2_with fail
        go_roundw
        case rel => exact ⟨i + 2, _, by congr 1; have := Hk.out; omega, rfl, by have := Hk.out; omega, Lh (by rw [ByteArray.data_append, Array.toList_append, hY.out, ByteArray.data_append, Array.toList_append]; exact hO2.out), Gg.out⟩
        case measure => simp only [leftTo]; have := Hk.out; omega
       | true =>
        cases h47 : (y == 47) with
        | true =>
         have hg : goesB o q true y = true := by simp [goesB, ho, hq, h47]
         have hO2 := Lh (hgo.out hg)
         rw [ho] at b1
         rw [hq] at b2
         rw [h47] at b5
         clear hg hgo hst ho hq h47 b3 b4
         go_wp2_with fail
         refine (HP.out _).mono ?_
         rintro e w2 ⟨rfl, rfl⟩
         go_wp2_with fail
         go_roundw
         case rel => exact ⟨i + 2, _, by congr 1; have := Hk.out; omega, rfl, by have := Hk.out; omega, Lh (by rw [ByteArray.data_append, Array.toList_append, hY.out]; exact hO2.out), Gg.out⟩
         case measure => simp only [leftTo]; have := Hk.out; omega
        | false =>
         have hg : goesB o q true y = false := by simp [goesB, ho, hq, h47]
         have hO2 := Lh (hst.out hg)
         rw [ho] at b1
         rw [hq] at b2
         rw [h47] at b5
         clear hg hgo hst ho hq h47 b3 b4
         go_wp2_with fail
         refine (HP.out _).mono ?_
         rintro e w2 ⟨rfl, rfl⟩
         go_wp2_with fail
         go_roundw
         case rel => exact ⟨i + 2, _, by congr 1; have := Hk.out; omega, rfl, by have := Hk.out; omega, Lh (by rw [ByteArray.data_append, Array.toList_append, hY.out, ByteArray.data_append, Array.toList_append]; exact hO2.out), Gg.out⟩
         case measure => simp only [leftTo]; have := Hk.out; omega
    ·have hst := Lh (inR_one (o := o) (q := q) (sl := sl) hL (by rw [h1]; decide) (fun h2 => absurd (by rw [Hsz.out]; exact h2) hd))
     have hdk : decide ((i : Int) + 1 < (s.size : Int)) = false := by simp; omega
     have hdk2 : ¬ (i : Int) + 1 < (s.size : Int) := by omega
     have t2 : ((l[i].toNat : Int) == 34) = false := by rw [h1]; rfl
     have hO2 : Hid (R.data.toList = (u.data.toList ++ [l[i]]) ++ inR o q sl (l.drop (i + 1))) := Lh (by rw [hO.out, hst.out]; simp)
     generalize l[i] = x at *
     clear h1 HB HX hO hst hL hd
     go_wp2_with fail
     go_roundw
     case rel => exact ⟨i + 1, _, rfl, rfl, by omega, Lh (by rw [ByteArray.data_append, Array.toList_append, hX.out]; exact hO2.out), Gg.out⟩
     case measure => simp only [leftTo]; omega
   ·have t1 : ((l[i].toNat : Int) == 92) = false := u8_neq (y := 92) h1
    by_cases h2 : l[i] = 34
    ·have t2 : ((l[i].toNat : Int) == 34) = true := by rw [h2]; rfl
     have hO2 : Hid (R.data.toList = (u.data.toList ++ [92, 34]) ++ inR o q sl (l.drop (i + 1))) := Lh (by rw [hO.out, inR_quo hL h2]; simp)
     generalize l[i] = x at *
     clear h1 h2 HB HX hO hL
     go_wp2_with fail
     go_roundw
     case rel => exact ⟨i + 1, _, rfl, rfl, by omega, Lh (by rw [ByteArray.data_append, Array.toList_append]; exact hO2.out), Gg.out⟩
     case measure => simp only [leftTo]; omega
    ·have t2 : ((l[i].toNat : Int) == 34) = false := u8_neq (y := 34) h2
     have hst := Lh (inR_one (o := o) (q := q) (sl := sl) hL h2 (fun _ => h1))
     have hO2 : Hid (R.data.toList = (u.data.toList ++ [l[i]]) ++ inR o q sl (l.drop (i + 1))) := Lh (by rw [hO.out, hst.out]; simp)
     generalize l[i] = x at *
     clear h1 h2 HB HX hO hst hL
     go_wp2_with fail
     go_roundw
     case rel => exact ⟨i + 1, _, rfl, rfl, by omega, Lh (by rw [ByteArray.data_append, Array.toList_append, hX.out]; exact hO2.out), Gg.out⟩
     case measure => simp only [leftTo]; omega
  ·have hci : decide ((i : Int) < (s.size : Int)) = false := by simp; omega
   have hci2 : ¬ (i : Int) < (s.size : Int) := by omega
   have HE : Hid (u = R) := Lh (by
    have := hO.out
    rw [List.drop_eq_nil_of_le (by rw [← Hsz.out]; omega)] at this
    exact ba_eq (by rw [this]; simp [inR]))
   clear HB HX hc hO
   go_wp2_with fail
   go_ret
   exact ⟨by rw [HE.out]; rfl, Gg.out⟩
end Go.Proofs.YthmopindibdhnaaGreatDoor.G
namespace Go.Proofs.YthmopindibdhnaaGreatDoor.G
open Go.RowKit Go.Shelf Go.Maps
def hereV : Option (Nat × List UInt8 × Bool) → Value
 | none => .tuple #[.int .i64 0, .string ⟨#[]⟩, .bool false]
 | some r => .tuple #[.int .i64 (r.1 : Nat), .string (ba r.2.1), .bool r.2.2]
section
variable {l : List UInt8}
theorem hereS_short (h : l.length < 3) : hereS l = none := by
 unfold hereS
 split
 ·rw [List.drop_eq_nil_of_le (by omega)]; rfl
 ·rfl
theorem hereS_no (h : l.take 2 ≠ [60, 60]) : hereS l = none := by
 unfold hereS
 rw [if_neg]
 rintro ⟨h1, h2⟩
 match l, h1, h2 with
 | a :: b :: t, h1, h2 =>
  simp at h1 h2
  exact h (by simp [h1, h2])
 | [a], _, h2 => simp at h2
theorem hereS_yes (h : l.take 2 = [60, 60]) : hereS l = (hereL (l.drop 2)).map fun r => (2 + r.1, r.2) := by
 unfold hereS
 rw [if_pos]
 match l, h with
 | a :: b :: t, h => simp at h; simp [h.1, h.2]
 | [a], h => simp at h
 | [], h => simp at h
theorem hereL_word (h : 0 < wordN l) (h12 : wordN l ≤ 12) : hereL l = some (wordN l, l.take (wordN l), true) := by unfold hereL; rw [if_pos h, if_pos h12]
theorem hereL_long (h : 12 < wordN l) : hereL l = none := by unfold hereL; rw [if_pos (by omega), if_neg (by omega)]
theorem hereL_quo {q : UInt8} (h : wordN l = 0) (hq : l[0]? = some q) : hereL l = if (q = 39 ∨ q = 34) ∧ 0 < wordN (l.drop 1) ∧ wordN (l.drop 1) ≤ 12 ∧ (l.drop 1)[wordN (l.drop 1)]? = some q then some (2 + wordN (l.drop 1), (l.drop 1).take (wordN (l.drop 1)), q == 34) else none := by
 unfold hereL; rw [if_neg (by omega), hq]
end
set_option maxRecDepth 100000 in
set_option maxHeartbeats 2000000 in
theorem heredoc_r (s : ByteArray) (hs : s.size ≤ 100000) (w : World) :
  Calls Tryz.prog 69 #[.string s] w fun e w' => e = .returned (hereV (hereS s.data.toList)) ∧ Gr w w' := by
 by_cases h3 : s.size < 3
 ·rw [hereS_short (by rw [sizeL]; exact h3)]
  have h3i : (s.size : Int) < 3 := by omega
  clear h3
  go_enter Tryz.func69, Tryz.ntmps69
  go_wp2_with fail
  refine bodyPost_ret (v := .tuple #[.int .i64 0, .string ⟨#[]⟩, .bool false]) (by simp [results, Tryz.results69, go_sem]) rfl ?_
  exact ⟨rfl, Gr.refl w⟩
 ·have h3i : ¬ (s.size : Int) < 3 := by omega
  have h2i : (2 : Int) ≤ (s.size : Int) := by omega
  have e2 : (s.extract 0 2).data.toList = s.data.toList.take 2 := by rw [extractE]; simp
  by_cases hp : s.data.toList.take 2 = [60, 60]
  ·have t1 : ((s.extract 0 2).toList != [60, 60]) = false := by rw [ByteArray.toList_eq, e2, hp]; rfl
   have t1' : ((s.extract 0 2).toList == [60, 60]) = true := by rw [ByteArray.toList_eq, e2, hp]; rfl
   rw [hereS_yes hp]
   have HW := Lh (fun w => word_r (s.extract 2 s.size) (by simp [ByteArray.size_extract]; omega) w)
   rw [dropE] at HW
   obtain ⟨n, hn⟩ : ∃ n, n = wordN (s.data.toList.drop 2) := ⟨_, rfl⟩
   have hnl : n ≤ (s.data.toList.drop 2).length := by rw [hn]; exact wordN_le _
   rw [List.length_drop, sizeL] at hnl
   rw [← hn] at HW
   by_cases h0 : 0 < n
   ·have h0i : (n : Int) > 0 := by omega
    have en : (s.extract 2 (2 + n)).data.toList = (s.data.toList.drop 2).take n := by rw [extractE]; simp
    obtain ⟨k, hk⟩ : ∃ k, k = 2 + n := ⟨_, rfl⟩
    have ek : (2 : Int) + (n : Int) = (k : Int) := by omega
    have ek2 : (k : Int) ≤ (s.size : Int) := by omega
    have ek3 : (2 : Int) ≤ (k : Int) := by omega
    rw [← hk] at en
    have HI := Lh (fun w => isWord_r (s.extract 2 k) (by simp [ByteArray.size_extract]; omega) w)
    rw [en, hn, isW_take, ← hn] at HI
    by_cases h12 : n ≤ 12
    ·rw [show (decide (0 < n) && decide (n ≤ 12)) = true by simp [h0, h12]] at HI
     have hr : (hereL (s.data.toList.drop 2)).map (fun r => (2 + r.1, r.2)) = some (k, (s.data.toList.drop 2).take n, true) := by
      rw [hereL_word (by omega) (by omega), ← hn, hk]; rfl
     have hba : s.extract 2 k = ba ((s.data.toList.drop 2).take n) := ba_eq (by rw [ba_data, en])
     rw [hr]
     have HE := Lh hba
     clear hr hba h0 h12 hn hnl hk hp e2 en h3
     go_enter Tryz.func69, Tryz.ntmps69
     go_wp2_with fail
     refine (HW.out _).mono ?_
     rintro e w2 ⟨rfl, rfl⟩
     go_wp2_with fail
     refine (HI.out _).mono ?_
     rintro e w2 ⟨rfl, rfl⟩
     go_wp2_with fail
     go_quiet (fail)
     go_wp2_with fail
     refine bodyPost_ret (v := .tuple #[.int .i64 (k : Int), .string (s.extract 2 k), .bool true]) (by simp [results, Tryz.results69, go_sem]) rfl ?_
     exact ⟨by rw [HE.out]; rfl, (Gr.refl w).drewN _⟩
    ·rw [show (decide (0 < n) && decide (n ≤ 12)) = false by simp [h12]] at HI
     rw [hereL_long (by omega)]
     clear h0 h12 hn hnl hk hp e2 en h3
     go_enter Tryz.func69, Tryz.ntmps69
     go_wp2_with fail
     refine (HW.out _).mono ?_
     rintro e w2 ⟨rfl, rfl⟩
     go_wp2_with fail
     refine (HI.out _).mono ?_
     rintro e w2 ⟨rfl, rfl⟩
     go_wp2_with fail
     refine bodyPost_ret (v := .tuple #[.int .i64 0, .string ⟨#[]⟩, .bool false]) (by simp [results, Tryz.results69, go_sem]) rfl ?_
     exact ⟨rfl, Gr.refl w⟩
   ·have hn0 : n = 0 := by omega
    subst hn0
    have h2L : 2 < s.data.toList.length := by rw [sizeL]; omega
    have h2S : 2 < s.size := by omega
    obtain ⟨q, hq⟩ : ∃ q, q = s.data.toList[2] := ⟨_, rfl⟩
    have ex : s[2] = q := by rw [hq]; exact byteE s 2 h2S h2L
    have h3j : (3 : Int) ≤ (s.size : Int) := by omega
    have hX : hereL (s.data.toList.drop 2) = if (q = 39 ∨ q = 34) ∧ 0 < wordN (s.data.toList.drop 3) ∧ wordN (s.data.toList.drop 3) ≤ 12 ∧ (s.data.toList.drop 3)[wordN (s.data.toList.drop 3)]? = some q then some (2 + wordN (s.data.toList.drop 3), (s.data.toList.drop 3).take (wordN (s.data.toList.drop 3)), q == 34) else none := by
     have := hereL_quo (l := s.data.toList.drop 2) (q := q) hn.symm (by rw [List.getElem?_drop, List.getElem?_eq_getElem (by omega), hq])
     rw [List.drop_drop] at this
     exact this
    have HW2 := Lh (fun w => word_r (s.extract 3 s.size) (by simp [ByteArray.size_extract]; omega) w)
    rw [dropE] at HW2
    rw [hX]
    clear hX
    obtain ⟨m, hm⟩ : ∃ m, m = s.data.toList.drop 3 := ⟨_, rfl⟩
    rw [← hm] at HW2 ⊢
    have hml : wordN m ≤ m.length := wordN_le m
    have hml2 : m.length = s.size - 3 := by rw [hm, List.length_drop, sizeL]
    have HIW := isW_take m
    have hat : ∀ k, m[k]? = s.data.toList[3 + k]? := fun k => by rw [hm, List.getElem?_drop]
    have etk : ∀ k, (s.extract 3 (3 + k)).data.toList = m.take k := fun k => by rw [hm, extractE]; simp
    obtain ⟨n2, hn2⟩ : ∃ n2, n2 = wordN m := ⟨_, rfl⟩
    rw [← hn2] at HW2 hml HIW ⊢
    clear hn2 hm
    by_cases hqq : q = 39 ∨ q = 34
    ·by_cases h0 : n2 = 0
     ·rw [if_neg (by rintro ⟨_, h, _⟩; omega)]
      subst h0
      have HTQ : Hid (((q.toNat : Int) != 39) = false ∨ (((q.toNat : Int) != 39) = true ∧ ((q.toNat : Int) != 34) = false)) := Lh (by
       rcases hqq with h | h
       ·left; rw [h]; rfl
       ·right; rw [h]; exact ⟨rfl, rfl⟩)
      clear hqq hq hml hml2 HIW hat etk h0 hn hnl hp e2 h3 h2L
      rcases HTQ.out with t5 | ⟨t5, t6⟩
      all_goals
       clear HTQ
       go_enter Tryz.func69, Tryz.ntmps69
       go_wp2_with fail
       refine (HW.out _).mono ?_
       rintro e w2 ⟨rfl, rfl⟩
       go_wp2_with fail
       refine (HW2.out _).mono ?_
       rintro e w2 ⟨rfl, rfl⟩
       go_wp2_with fail
       go_quiet (fail)
       go_wp2_with fail
       refine bodyPost_ret (v := .tuple #[.int .i64 0, .string ⟨#[]⟩, .bool false]) (by simp [results, Tryz.results69, go_sem]) rfl ?_
       exact ⟨rfl, (Gr.refl w).drewN _⟩
     ·have h0b : ((n2 : Int) == 0) = false := by simp; exact h0
      obtain ⟨k, hk⟩ : ∃ k, k = 3 + n2 := ⟨_, rfl⟩
      have ek : (3 : Int) + (n2 : Int) = (k : Int) := by omega
      have ek4 : (k : Int) ≤ 200000 := by omega
      have ekw : IntKind.i64.wrap (k : Int) = (k : Int) := by rw [IntKind.wrap_i64]; omega
      by_cases hkl : k < s.size
      ·have hki : (k : Int) < (s.size : Int) := by omega
       have hki2 : ¬ (s.size : Int) ≤ (k : Int) := by omega
       have hki3 : decide (s.size ≤ k) = false := decide_eq_false (by omega)
       have h2z : (2 : Int) < (s.size : Int) := by omega
       have hkL : k < s.data.toList.length := by rw [sizeL]; exact hkl
       obtain ⟨c, hc⟩ : ∃ c, c = s.data.toList[k] := ⟨_, rfl⟩
       have ey : s[k] = c := by rw [hc]; exact byteE s k hkl hkL
       have hmc : m[n2]? = some c := by rw [hat, ← hk, List.getElem?_eq_getElem hkL, hc]
       by_cases hcq : c = q
       ·have t3 : ((c.toNat : Int) != (q.toNat : Int)) = false := by rw [u8_bne, hcq]; simp
        have t3' : ((c.toNat : Int) == (q.toNat : Int)) = true := by rw [u8_beq, hcq]; simp
        have en := etk n2
        rw [← hk] at en
        have ek2 : (k : Int) ≤ (s.size : Int) := by omega
        have ek3 : (3 : Int) ≤ (k : Int) := by omega
        have HI := Lh (fun w => isWord_r (s.extract 3 k) (by simp [ByteArray.size_extract]; omega) w)
        rw [en, HIW] at HI
        by_cases h12 : n2 ≤ 12
        ·rw [show (decide (0 < n2) && decide (n2 ≤ 12)) = true by simp [h12]; omega] at HI
         rw [if_pos ⟨hqq, by omega, h12, by rw [hmc, hcq]⟩]
         have ek5 : (4 : Int) + (n2 : Int) = ((k + 1 : Nat) : Int) := by omega
         have hba : s.extract 3 k = ba (m.take n2) := ba_eq (by rw [ba_data, en])
         have HE := Lh hba
         have HQ : Hid (((q.toNat : Int) == 34) = (q == 34)) := Lh (u8_beq q 34)
         have HK : Hid (2 + (2 + n2) = k + 1) := Lh (by omega)
         have HTQ : Hid (((q.toNat : Int) != 39) = false ∨ (((q.toNat : Int) != 39) = true ∧ ((q.toNat : Int) != 34) = false)) := Lh (by
          rcases hqq with h | h
          ·left; rw [h]; rfl
          ·right; rw [h]; exact ⟨rfl, rfl⟩)
         have ek6 : (4 : Int) + (n2 : Int) ≤ 200000 := by omega
         have ekw6 : IntKind.i64.wrap (4 + (n2 : Int)) = 4 + (n2 : Int) := by rw [IntKind.wrap_i64]; omega
         have HK5 := Lh ek5
         clear hqq hq hml hml2 HIW hat etk h0 hn hnl hp e2 h3 h2L hk hmc hcq en h12 hc hba ek5
         rcases HTQ.out with t5 | ⟨t5, t6⟩
         all_goals
          clear HTQ
          go_enter Tryz.func69, Tryz.ntmps69
          go_wp2_with fail
          refine (HW.out _).mono ?_
          rintro e w2 ⟨rfl, rfl⟩
          go_wp2_with fail
          refine (HW2.out _).mono ?_
          rintro e w2 ⟨rfl, rfl⟩
          go_wp2_with fail
          go_quiet ((go_at_call 91; exact quiet_at (HI.out _)))
          go_wp2_with fail
          go_quiet (fail)
          go_wp2_with fail
          refine bodyPost_ret (v := .tuple #[.int .i64 (4 + (n2 : Int)), .string (s.extract 3 k), .bool ((q.toNat : Int) == 34)]) (by simp [results, Tryz.results69, go_sem]) rfl ?_
          exact ⟨by rw [HK5.out, HE.out, HQ.out, ← HK.out]; rfl, ((Gr.refl w).drewN _).drewN _⟩
        ·rw [show (decide (0 < n2) && decide (n2 ≤ 12)) = false by simp [h12]] at HI
         rw [if_neg (by rintro ⟨_, _, h, _⟩; exact h12 h)]
         have HTQ : Hid (((q.toNat : Int) != 39) = false ∨ (((q.toNat : Int) != 39) = true ∧ ((q.toNat : Int) != 34) = false)) := Lh (by
          rcases hqq with h | h
          ·left; rw [h]; rfl
          ·right; rw [h]; exact ⟨rfl, rfl⟩)
         clear hqq hq hml hml2 HIW hat etk h0 hn hnl hp e2 h3 h2L hk hmc hcq en h12 hc
         rcases HTQ.out with t5 | ⟨t5, t6⟩
         all_goals
          clear HTQ
          go_enter Tryz.func69, Tryz.ntmps69
          go_wp2_with fail
          refine (HW.out _).mono ?_
          rintro e w2 ⟨rfl, rfl⟩
          go_wp2_with fail
          refine (HW2.out _).mono ?_
          rintro e w2 ⟨rfl, rfl⟩
          go_wp2_with fail
          go_quiet ((go_at_call 91; exact quiet_at (HI.out _)))
          go_wp2_with fail
          refine bodyPost_ret (v := .tuple #[.int .i64 0, .string ⟨#[]⟩, .bool false]) (by simp [results, Tryz.results69, go_sem]) rfl ?_
          exact ⟨rfl, (Gr.refl w).drewN _⟩
       ·have t3 : ((c.toNat : Int) != (q.toNat : Int)) = true := by rw [u8_bne]; simp [hcq]
        have t3' : ((c.toNat : Int) == (q.toNat : Int)) = false := by rw [u8_beq]; simp [hcq]
        rw [if_neg (by rintro ⟨_, _, _, h⟩; rw [hmc] at h; exact hcq (Option.some.inj h))]
        have HTQ : Hid (((q.toNat : Int) != 39) = false ∨ (((q.toNat : Int) != 39) = true ∧ ((q.toNat : Int) != 34) = false)) := Lh (by
         rcases hqq with h | h
         ·left; rw [h]; rfl
         ·right; rw [h]; exact ⟨rfl, rfl⟩)
        clear hqq hq hml hml2 HIW hat etk h0 hn hnl hp e2 h3 h2L hk hmc hcq hc
        rcases HTQ.out with t5 | ⟨t5, t6⟩
        all_goals
         clear HTQ
         go_enter Tryz.func69, Tryz.ntmps69
         go_wp2_with fail
         refine (HW.out _).mono ?_
         rintro e w2 ⟨rfl, rfl⟩
         go_wp2_with fail
         refine (HW2.out _).mono ?_
         rintro e w2 ⟨rfl, rfl⟩
         go_wp2_with fail
         go_quiet (fail)
         go_wp2_with fail
         refine bodyPost_ret (v := .tuple #[.int .i64 0, .string ⟨#[]⟩, .bool false]) (by simp [results, Tryz.results69, go_sem]) rfl ?_
         exact ⟨rfl, (Gr.refl w).drewN _⟩
      ·have hki : ¬ (k : Int) < (s.size : Int) := by omega
       have hki2 : (s.size : Int) ≤ (k : Int) := by omega
       have hki3 : decide (s.size ≤ k) = true := decide_eq_true (by omega)
       rw [if_neg (by rintro ⟨_, _, _, h⟩; rw [hat, ← hk, List.getElem?_eq_none (by rw [sizeL]; omega)] at h; exact absurd h nofun)]
       have HTQ : Hid (((q.toNat : Int) != 39) = false ∨ (((q.toNat : Int) != 39) = true ∧ ((q.toNat : Int) != 34) = false)) := Lh (by
        rcases hqq with h | h
        ·left; rw [h]; rfl
        ·right; rw [h]; exact ⟨rfl, rfl⟩)
       clear hqq hq hml hml2 HIW hat etk h0 hn hnl hp e2 h3 h2L hk hkl
       rcases HTQ.out with t5 | ⟨t5, t6⟩
       all_goals
        clear HTQ
        go_enter Tryz.func69, Tryz.ntmps69
        go_wp2_with fail
        refine (HW.out _).mono ?_
        rintro e w2 ⟨rfl, rfl⟩
        go_wp2_with fail
        refine (HW2.out _).mono ?_
        rintro e w2 ⟨rfl, rfl⟩
        go_wp2_with fail
        go_quiet (fail)
        go_wp2_with fail
        refine bodyPost_ret (v := .tuple #[.int .i64 0, .string ⟨#[]⟩, .bool false]) (by simp [results, Tryz.results69, go_sem]) rfl ?_
        exact ⟨rfl, (Gr.refl w).drewN _⟩
    ·rw [if_neg (fun h => hqq h.1)]
     have t5 : ((q.toNat : Int) != 39) = true := by have := u8_bne q 39; rw [show ((39 : UInt8).toNat : Int) = 39 from rfl] at this; rw [this]; simp; exact fun h => hqq (.inl h)
     have t6 : ((q.toNat : Int) != 34) = true := by have := u8_bne q 34; rw [show ((34 : UInt8).toNat : Int) = 34 from rfl] at this; rw [this]; simp; exact fun h => hqq (.inr h)
     clear hqq hq hml hml2 HIW hat etk hn hnl hp e2 h3 h2L HW2
     go_enter Tryz.func69, Tryz.ntmps69
     go_wp2_with fail
     refine (HW.out _).mono ?_
     rintro e w2 ⟨rfl, rfl⟩
     go_wp2_with fail
     refine bodyPost_ret (v := .tuple #[.int .i64 0, .string ⟨#[]⟩, .bool false]) (by simp [results, Tryz.results69, go_sem]) rfl ?_
     exact ⟨rfl, Gr.refl w⟩
  ·rw [hereS_no hp]
   have t1 : ((s.extract 0 2).toList != [60, 60]) = true := by rw [ByteArray.toList_eq, e2]; simpa using hp
   have t1' : ((s.extract 0 2).toList == [60, 60]) = false := by rw [ByteArray.toList_eq, e2]; simpa using hp
   clear h3 hp e2
   go_enter Tryz.func69, Tryz.ntmps69
   go_wp2_with fail
   refine bodyPost_ret (v := .tuple #[.int .i64 0, .string ⟨#[]⟩, .bool false]) (by simp [results, Tryz.results69, go_sem]) rfl ?_
   exact ⟨rfl, Gr.refl w⟩
end Go.Proofs.YthmopindibdhnaaGreatDoor.G
namespace Go.Proofs.YthmopindibdhnaaGreatDoor.G
open Go.RowKit Go.Shelf Go.Maps
def TextsAt (W : World) (A : Nat) (xs : List ByteArray) : Prop := ∀ (j : Nat) x, xs[j]? = some x → W.cell? ⟨A, j, none⟩ = some (.string x)
theorem has_from {xs : List ByteArray} {s : ByteArray} {i : Nat} (h : i < xs.length) : (xs.drop i).any (fun x => x.toList == s.toList) = (xs[i].toList == s.toList || (xs.drop (i + 1)).any (fun x => x.toList == s.toList)) := by
 rw [List.drop_eq_getElem_cons h, List.any_cons]
set_option maxRecDepth 100000 in
set_option maxHeartbeats 1000000 in
theorem has_r (A : Nat) (xs : List ByteArray) (s : ByteArray) (W : World) (hc : TextsAt W A xs) (hn : xs.length ≤ 1000) :
  Calls Tryz.prog 22 #[.slice (some ⟨A, 0, none⟩) xs.length xs.length, .string s] W fun e w' => e = .returned (.bool (xs.any fun x => x.toList == s.toList)) ∧ W = w' := by
 obtain ⟨R, hR⟩ : ∃ R, R = xs.any fun x => x.toList == s.toList := ⟨_, rfl⟩
 rw [← hR]
 have HR : Hid (R = (xs.drop 0).any fun x => x.toList == s.toList) := Lh (by rw [hR]; rfl)
 have HC := Lh hc
 have Hn := Lh hn
 clear hR hc hn
 go_enter Tryz.func22, Tryz.ntmps22
 go_wp2_with fail
 go_loopw [5] (fun iv wr => ∃ i : Nat, iv = .int .i64 (i : Int) ∧ Hid (i ≤ xs.length) ∧ Hid (R = (xs.drop i).any fun x => x.toList == s.toList) ∧ W = wr) (fun iv _ => leftTo xs.length iv)
 case atStart => exact ⟨0, rfl, Lh (Nat.zero_le _), HR, rfl⟩
 case round =>
  obtain ⟨i, rfl, hi, HRi, rfl⟩ := hrel
  clear HR
  by_cases hl : i < xs.length
  ·have hli : (i : Int) < (xs.length : Int) := by omega
   have c0 := HC.out i xs[i] (List.getElem?_eq_getElem hl)
   have hst := has_from (s := s) hl
   have HS := Lh hst
   have hi1 : (i : Int) + 1 ≤ 9223372036854775807 := by have := Hn.out; omega
   have hi2 : -9223372036854775808 ≤ (i : Int) + 1 := by omega
   generalize xs[i] = x at *
   clear hst
   cases hb : x.toList == s.toList with
   | true =>
    have HT : Hid (R = true) := Lh (by rw [HRi.out, HS.out, hb]; rfl)
    clear HS HRi
    go_wp2_with fail
    go_ret
    exact ⟨by rw [HT.out]; rfl, rfl⟩
   | false =>
    have HT : Hid (R = (xs.drop (i + 1)).any fun x => x.toList == s.toList) := Lh (by rw [HRi.out, HS.out, hb]; rfl)
    clear HS HRi
    go_wp2_with fail
    go_roundw
    case rel => exact ⟨i + 1, rfl, Lh hl, HT, trivial⟩
    case measure => simp only [leftTo]; omega
  ·have hli : ¬ (i : Int) < (xs.length : Int) := by omega
   have hli2 : decide (i < xs.length) = false := decide_eq_false hl
   have HT : Hid (R = false) := Lh (by rw [HRi.out, List.drop_eq_nil_of_le (by omega)]; rfl)
   clear hl HRi
   go_wp2_with fail
   go_ret
   exact ⟨by rw [HT.out]; rfl, rfl⟩
def takesA : List ByteArray := takesL.map ba
theorem texts_alloc (W : World) (xs : List ByteArray) (T : TypeId) : TextsAt (W.alloc (.cells (xs.map Value.string).toArray T)) W.heap.size xs := by
 intro j x hx
 have := (cellsOf (heap_alloc_new W (.cells (xs.map Value.string).toArray T))).1 j
 rw [this]
 simp [hx]
theorem TextsAt.gr {W W' : World} {A : Nat} {xs : List ByteArray} (h : TextsAt W A xs) (g : Gr W W') (hA : A < W.heap.size) : TextsAt W' A xs := by
 intro j x hx
 have := h j x hx
 unfold World.cell? at *
 rw [g.block A hA]; exact this
set_option maxRecDepth 100000 in
theorem before_r (W : World) : Calls Tryz.prog 39 #[] W fun e w' => e = .returned (.slice (some ⟨W.heap.size, 0, none⟩) 28 28) ∧ TextsAt w' W.heap.size takesA ∧ Gr W w' := by
 go_enter Tryz.func39, Tryz.ntmps39
 go_wp2_with fail
 go_ret
 exact ⟨rfl, texts_alloc W takesA _, (Gr.refl W).alloc _⟩
theorem takes_any (s : ByteArray) : (takesA.any fun x => x.toList == s.toList) = takesB s.data.toList := by
 unfold takesA takesB
 rw [List.any_map, List.contains_eq_any_beq]
 congr 1
 funext x
 show (ByteArray.toList (ba x) == s.toList) = (s.data.toList == x)
 rw [ByteArray.toList_eq, ByteArray.toList_eq, ba_data, BEq.comm]
def expB (k : Int) (l : List UInt8) (o : Int) (b : Bool) : Bool := if k = 0 then takesB l else if k = 3 then behindSignB l o b else false
theorem exp_behind {k : Int} (hk : 0 ≤ k ∧ k ≤ 9) (l : List UInt8) (o : Int) (b : Bool) : expB k l o b = behindB k l o b := by
 unfold expB behindB
 by_cases h0 : k = 0
 ·rw [if_pos h0, if_pos h0]
 ·rw [if_neg h0, if_neg h0]
  by_cases h3 : k = 3
  ·rw [if_pos h3, if_pos h3]
  ·rw [if_neg h3, if_neg h3]
   have h1 : (1 : Int) ≤ k := by omega
   simp [h1, hk.2]
set_option maxRecDepth 100000 in
set_option maxHeartbeats 2000000 in
theorem expects_r (k p : Int) (s r m : ByteArray) (o : Int) (b : Bool) (w : World) : Calls Tryz.prog 24 #[.agg #[.int .i64 k, .int .i64 p, .string s, .string r, .string m, .int .i64 o], .bool b] w fun e w' => e = .returned (.bool (expB k s.data.toList o b)) ∧ Gr w w' := by
 have G := Lh ((Gr.refl w).alloc (.cells #[.int .i64 k, .int .i64 p, .string s, .string r, .string m, .int .i64 o] 42))
 have K := Lh (heap_alloc_new w (.cells #[.int .i64 k, .int .i64 p, .string s, .string r, .string m, .int .i64 o] 42))
 have HBf := Lh before_r
 have HH := Lh (fun (A : Nat) (W : World) (hc : TextsAt W A takesA) => has_r A takesA s W hc (by decide))
 rw [takes_any, show takesA.length = 28 from rfl] at HH
 by_cases h0 : k = 0
 ·have e0 : expB k s.data.toList o b = takesB s.data.toList := if_pos h0
  have t0 : (k == 0) = true := by simpa using h0
  rw [e0]; clear e0 h0
  go_enter Tryz.func24, Tryz.ntmps24
  go_wp2_with fail
  generalize hW : w.alloc (.cells #[.int .i64 k, .int .i64 p, .string s, .string r, .string m, .int .i64 o] 42) = W1 at *
  clear hW
  have k2 := (cellsOf K.out).1 2
  simp at k2
  go_region_with (first
   | (go_at_call 39; refine (HBf.out _).mono ?_; rintro e9 w9 ⟨rfl, ht9, g9⟩; have HT9 := Lh ht9; have G9 := Lh g9; have k2' := (cellsOf ((g9.block _ (Ag K.out).1).trans K.out)).1 2; simp at k2'; clear ht9 g9)
   | (go_at_call 22; refine (HH.out _ _ HT9.out).mono ?_; rintro e8 w8 ⟨rfl, rfl⟩))
  all_goals
   go_wp2_with fail
   go_ret
   exact ⟨rfl, G.out.trans (((Gr.refl _).drew).trans G9.out)⟩
 ·have t0 : (k == 0) = false := by simpa using h0
  clear HBf HH K
  by_cases h3 : k = 3
  ·have t3 : (k == 3) = true := by simpa using h3
   have e0 : expB k s.data.toList o b = behindSignB s.data.toList o b := by unfold expB; rw [if_neg h0, if_pos h3]
   rw [e0]; clear e0 h0 h3
   obtain ⟨R, hR⟩ : ∃ R, R = behindSignB s.data.toList o b := ⟨_, rfl⟩
   have HR : Hid (R = if (s.toList == [41] || s.toList == [93]) = true then false else if (s.toList == [125]) = true then (o != 2 && o != 3) else if (s.toList == [43, 43] || s.toList == [45, 45]) = true then b else true) := Lh (by rw [hR, ByteArray.toList_eq]; rfl)
   rw [← hR]
   clear hR
   by_cases h2 : o = 2
   ·have t2 : (o == 2) = true := by simpa using h2
    have t2' : (o != 2) = false := by simpa using h2
    clear h2
    go_enter Tryz.func24, Tryz.ntmps24
    go_wp2
    all_goals
     go_ret
     refine ⟨?_, G.out⟩
     rw [HR.out]
     first
      | (simp [*]; done)
      | simp_all
   ·have t2 : (o == 2) = false := by simpa using h2
    have t2' : (o != 2) = true := by simpa using h2
    clear h2
    go_enter Tryz.func24, Tryz.ntmps24
    go_wp2
    all_goals
     go_ret
     refine ⟨?_, G.out⟩
     rw [HR.out]
     first
      | (simp [*]; done)
      | simp_all
  ·have t3 : (k == 3) = false := by simpa using h3
   have e0 : expB k s.data.toList o b = false := by unfold expB; rw [if_neg h0, if_neg h3]
   rw [e0]; clear e0 h0 h3
   go_enter Tryz.func24, Tryz.ntmps24
   go_wp2_with fail
   go_ret
   exact ⟨rfl, G.out⟩
end Go.Proofs.YthmopindibdhnaaGreatDoor.G
namespace Go.Proofs.YthmopindibdhnaaGreatDoor.G
open Go.RowKit Go.Shelf Go.Maps
variable {o q : UInt8}
theorem eachL_2 (g : List UInt8 → List UInt8) (f : Nat) (y : UInt8) (t : List UInt8) : eachL g (f + 1) (92 :: y :: t) = g [92, y] ++ eachL g f t := by
 rw [eachL_two (by simp) rfl]; rfl
theorem eachL_1 (g : List UInt8 → List UInt8) (f : Nat) (x : UInt8) (t : List UInt8) (h : x ≠ 92 ∨ t = []) : eachL g (f + 1) (x :: t) = g [x] ++ eachL g f t := by
 rw [eachL_one (by simp)]
 ·rfl
 ·rintro ⟨h1, h2⟩
  rcases h with h | h
  ·exact h h1
  ·subst h; simp at h2
theorem plR_ne {x : UInt8} (h : x ≠ 92) (t : List UInt8) : plR o q (x :: t) = x :: plR o q t := by
 cases t with
 | nil => rfl
 | cons y t => rw [plR, if_neg (fun e => h e.1)]
theorem plG_1 (o x : UInt8) : plG o [x] = [x] := by unfold plG; rw [if_neg (fun h => absurd h.1 (by simp))]
theorem plG_2 (o y : UInt8) : plG o [92, y] = if (y == 92 || delsB y o) = true then [y] else [92, y] := by
 unfold plG
 rw [secB_at (by simp)]
 by_cases h : (y == 92 || delsB y o) = true
 ·rw [if_pos ⟨rfl, h⟩, if_pos h]; rfl
 ·rw [if_neg (fun e => h e.2), if_neg h]
theorem pl_go (o : UInt8) : ∀ (f : Nat) (l : List UInt8), l.length ≤ f → eachL (plG o) f l = plR o (partU o) l
 | f, [], _ => eachL_nil _ _
 | 0, x :: t, h => absurd h (by simp)
 | f + 1, [x], _ => by rw [eachL_1 _ _ _ _ (.inr rfl), eachL_nil, plG_1]; rfl
 | f + 1, x :: y :: t, h => by
  by_cases hx : x = 92
  ·subst hx
   have h1 := pl_go o f t (by simp at h; omega)
   rw [eachL_2, plG_2, h1, plR]
   by_cases hy : (y == 92 || delsB y o) = true
   ·have hy2 : y = 92 ∨ y = o ∨ y = partU o := by simpa [delsB] using hy
    rw [if_pos hy, if_pos ⟨rfl, hy2⟩]; rfl
   ·have hy2 : ¬ (y = 92 ∨ y = o ∨ y = partU o) := by simpa [delsB] using hy
    rw [if_neg hy, if_neg (fun e => hy2 e.2), plR_ne (fun e => hy2 (.inl e))]; rfl
  ·have h1 := pl_go o f (y :: t) (by simp at h ⊢; omega)
   rw [eachL_1 _ _ _ _ (.inl hx), h1, plG_1, plR, if_neg (fun e => hx e.1)]; rfl
theorem pl_eq (o : UInt8) (l : List UInt8) : plL o l = plR o (partU o) l := pl_go o _ l (Nat.le_refl _)
theorem wsG_1 (x : UInt8) : wsG [x] = [x] := by unfold wsG; rw [if_neg (by simp)]
theorem ws_go : ∀ (f : Nat) (l : List UInt8), l.length ≤ f → eachL wsG f l = patR l
 | f, [], _ => eachL_nil _ _
 | 0, x :: t, h => absurd h (by simp)
 | f + 1, [x], _ => by rw [eachL_1 _ _ _ _ (.inr rfl), eachL_nil, wsG_1]; rfl
 | f + 1, x :: y :: t, h => by
  by_cases hx : x = 92
  ·subst hx
   have h1 := ws_go f t (by simp at h; omega)
   rw [eachL_2, h1, patR, if_pos rfl]
   unfold wsG
   by_cases hy : y = 47
   ·subst hy; rfl
   ·rw [if_neg (by simp [hy]), if_neg hy]; rfl
  ·have h1 := ws_go f (y :: t) (by simp at h ⊢; omega)
   rw [eachL_1 _ _ _ _ (.inl hx), h1, wsG_1, patR, if_neg hx]; rfl
theorem ws_eq (l : List UInt8) : wsL l = patR l := ws_go _ l (Nat.le_refl _)
theorem inG_1 (o x : UInt8) : inG o [x] = if x = 34 then [92, 34] else [x] := by
 unfold inG
 by_cases h : x = 34
 ·subst h; rfl
 ·rw [if_neg (by simpa using h), if_neg h, if_neg (fun e => absurd e.1 (by simp))]
theorem inG_2 (o y : UInt8) : inG o [92, y] = if (y != 34 && delsB y o) = true then [y] else [92, y] := by
 unfold inG
 rw [if_neg (by simp), secB_at (by simp)]
 by_cases h : (y != 34 && delsB y o) = true
 ·rw [if_pos ⟨rfl, h⟩, if_pos h]; rfl
 ·rw [if_neg (fun e => h e.2), if_neg h]
theorem in_go (o o' q : UInt8) (hg : ∀ y, (y != 34 && delsB y o) = goesB o' q false y) : ∀ (f : Nat) (l : List UInt8), l.length ≤ f → eachL (inG o) f l = inR o' q false l
 | f, [], _ => eachL_nil _ _
 | 0, x :: t, h => absurd h (by simp)
 | f + 1, [x], _ => by rw [eachL_1 _ _ _ _ (.inr rfl), eachL_nil, inG_1, inR_1, List.append_nil]
 | f + 1, x :: y :: t, h => by
  by_cases hx : x = 92
  ·subst hx
   have h1 := in_go o o' q hg f t (by simp at h; omega)
   rw [eachL_2, inG_2, h1, inR, if_pos rfl, hg]
   by_cases hy : goesB o' q false y = true
   ·rw [if_pos hy, if_pos hy]; rfl
   ·rw [if_neg hy, if_neg hy]; rfl
  ·have h1 := in_go o o' q hg f (y :: t) (by simp at h ⊢; omega)
   rw [eachL_1 _ _ _ _ (.inl hx), h1, inG_1, inR, if_neg hx]
   by_cases h34 : x = 34
   ·rw [if_pos h34, if_pos h34]; rfl
   ·rw [if_neg h34, if_neg h34]; rfl
theorem in_eq (o : UInt8) (h1 : o ≠ 92) (h2 : partU o ≠ 92) (l : List UInt8) : inL o l = inR o (partU o) false l := by
 refine in_go o o (partU o) (fun y => ?_) _ l (Nat.le_refl _)
 unfold goesB delsB
 by_cases hy : y = 92
 ·subst hy
  have e1 : ((92 : UInt8) == o) = false := by simpa using Ne.symm h1
  have e2 : ((92 : UInt8) == partU o) = false := by simpa using Ne.symm h2
  rw [e1, e2]; rfl
 ·have e3 : (y == 92) = false := by simpa using hy
  rw [e3]
  cases h : (y == o || y == partU o) <;> cases h' : (y == 34) <;> simp [bne, h']
theorem patR_ne {x : UInt8} (h : x ≠ 92) (t : List UInt8) : patR (x :: t) = x :: patR t := by
 cases t with
 | nil => rfl
 | cons y t => rw [patR, if_neg h]
theorem patR_esc (y : UInt8) (t : List UInt8) : patR (92 :: y :: t) = if y = 47 then y :: patR t else 92 :: y :: patR t := by rw [patR, if_pos rfl]
theorem sub_go (o q : UInt8) : ∀ (l : List UInt8), patR (inR o q false l) = inR o q true l
 | [] => rfl
 | [x] => by
  rw [inR_1, inR_1]
  by_cases h : x = 34
  ·rw [if_pos h]; rfl
  ·rw [if_neg h]; rfl
 | x :: y :: t => by
  have h1 := sub_go o q t
  have h2 := sub_go o q (y :: t)
  rw [inR, inR]
  by_cases hx : x = 92
  ·rw [if_pos hx, if_pos hx]
   cases hg : goesB o q false y with
   | true =>
    have hy : y ≠ 92 := fun e => by subst e; unfold goesB at hg; simp at hg
    have hg2 : goesB o q true y = true := by
     unfold goesB at hg ⊢
     simp only [Bool.false_and, Bool.or_false] at hg
     rw [hg]; rfl
    rw [if_pos rfl, if_pos hg2, patR_ne hy, h1]
   | false =>
    have hg2 : goesB o q true y = (y == 47) := by
     unfold goesB at hg ⊢
     simp only [Bool.false_and, Bool.or_false] at hg
     rw [hg]; simp
    rw [if_neg (show ¬ false = true from by decide), patR_esc, h1, hg2]
    by_cases hy : y = 47
    ·rw [if_pos hy, if_pos (by simpa using hy)]
    ·rw [if_neg hy, if_neg (by simpa using hy)]
  ·rw [if_neg hx, if_neg hx]
   by_cases h34 : x = 34
   ·rw [if_pos h34, if_pos h34, patR_esc, if_neg (by decide), h2]
   ·rw [if_neg h34, if_neg h34, patR_ne hx, h2]
theorem sub_eq (o : UInt8) (h1 : o ≠ 92) (h2 : partU o ≠ 92) (l : List UInt8) : wsL (inL o l) = inR o (partU o) true l := by
 rw [ws_eq, in_eq o h1 h2, sub_go]
theorem here_go : ∀ (f : Nat) (l : List UInt8), (∀ c ∈ l, c ≠ 0) → l.length ≤ f → eachL (inG 34) f l = inR 0 0 false l
 | f, [], _, _ => eachL_nil _ _
 | 0, x :: t, _, h => absurd h (by simp)
 | f + 1, [x], _, _ => by rw [eachL_1 _ _ _ _ (.inr rfl), eachL_nil, inG_1, inR_1, List.append_nil]
 | f + 1, x :: y :: t, h0, h => by
  by_cases hx : x = 92
  ·subst hx
   have h1 := here_go f t (fun c hc => h0 c (by simp [hc])) (by simp at h; omega)
   have hy0 : y ≠ 0 := h0 y (by simp)
   have e1 : (y != 34 && delsB y 34) = false := by
    have : partU 34 = 34 := by decide
    unfold delsB
    rw [this]
    cases h' : (y == 34) <;> simp [bne, h']
   have e2 : goesB 0 0 false y = false := by unfold goesB; simp [hy0]
   rw [eachL_2, inG_2, h1, inR, if_pos rfl, e1, e2]; rfl
  ·have h1 := here_go f (y :: t) (fun c hc => h0 c (by simp at hc ⊢; exact .inr hc)) (by simp at h ⊢; omega)
   rw [eachL_1 _ _ _ _ (.inl hx), h1, inG_1, inR, if_neg hx]
   by_cases h34 : x = 34
   ·rw [if_pos h34, if_pos h34]; rfl
   ·rw [if_neg h34, if_neg h34]; rfl
theorem here_eq (l : List UInt8) (h : ∀ c ∈ l, c ≠ 0) : inL 34 l = inR 0 0 false l := here_go _ l h (Nat.le_refl _)
end Go.Proofs.YthmopindibdhnaaGreatDoor.G
namespace Go.Proofs.YthmopindibdhnaaGreatDoor.G
open Go.RowKit Go.Shelf Go.Maps
theorem sign_no95 {k : List UInt8} (h : (95 : UInt8) ∈ k) : isSignB k = false := by
 unfold isSignB
 cases hb : signsL.contains k with
 | false => rfl
 | true =>
  exfalso
  rw [List.contains_iff_mem] at hb
  have : ∀ s ∈ signsL, (95 : UInt8) ∉ s := by decide
  exact this k hb h
theorem sign_95 (c : UInt8) (t : List UInt8) : signN (c :: 95 :: t) ≤ 1 := by
 unfold signN
 have h2 : isSignB ((c :: 95 :: t).take 2) = false := sign_no95 (by simp)
 cases t with
 | nil =>
  show signGo _ 2 ≤ 1
  rw [signGo, if_neg (by rw [h2]; decide)]
  exact signGo_le _ _
 | cons d t =>
  have h3 : isSignB ((c :: 95 :: d :: t).take 3) = false := sign_no95 (by simp)
  have : min 3 (c :: 95 :: d :: t).length = 3 := by simp
  rw [this, signGo, if_neg (by rw [h3]; decide), signGo, if_neg (by rw [h2]; decide)]
  exact signGo_le _ _
theorem signS_95 (c : UInt8) (t : List UInt8) : signS (c :: 95 :: t) true ≤ 1 := by
 unfold signS
 split
 ·exact sign_95 c t
 ·split <;> simp
theorem byte_facts : ∀ c : UInt8, (alphaB (c.toNat : Int) = true → sigilB (c.toNat : Int) = false ∧ c ≠ 60 ∧ blkB (c.toNat : Int) = false ∧ c ≠ 35) ∧ (sigilB (c.toNat : Int) = true → alphaB (c.toNat : Int) = false ∧ digB (c.toNat : Int) = false) := by
 have H : ∀ n : Fin 256, (alphaB ((UInt8.ofNat n.val).toNat : Int) = true → sigilB ((UInt8.ofNat n.val).toNat : Int) = false ∧ UInt8.ofNat n.val ≠ 60 ∧ blkB ((UInt8.ofNat n.val).toNat : Int) = false ∧ UInt8.ofNat n.val ≠ 35) ∧ (sigilB ((UInt8.ofNat n.val).toNat : Int) = true → alphaB ((UInt8.ofNat n.val).toNat : Int) = false ∧ digB ((UInt8.ofNat n.val).toNat : Int) = false) := by
  decide +kernel
 intro o
 have := H ⟨o.toNat, o.toNat_lt⟩
 simpa using this
theorem word_head {c : UInt8} {t : List UInt8} (h : 0 < wordN (c :: t)) : alphaB (c.toNat : Int) = true := by
 cases ha : alphaB (c.toNat : Int) with
 | true => rfl
 | false =>
  have : wordN (c :: t) = 0 := by
   unfold wordN
   simp [ha]
  omega
theorem kind_long {l : List UInt8} (h : 2 < l.length) : kindL l = none := by
 unfold kindL
 match l, h with
 | a :: b :: c :: t, _ => simp
theorem next_long {x : Nat × UInt8} {R : Src} (ref term : Bool) (h : 12 < wordN (byt (x :: R))) : nextS ref (x :: R) term = none := by
 have ha : alphaB (x.2.toNat : Int) = true := word_head (t := byt R) (by rw [byt_cons] at h; omega)
 obtain ⟨h1, h2, h3, h4⟩ := (byte_facts x.2).1 ha
 have hp : plainS (x :: R) term = none := by
  unfold plainS
  simp only [ha, if_true]
  rw [if_neg (by omega)]
 unfold nextS
 cases term with
 | false => rw [if_neg (show ¬ false = true from by decide)]; exact hp
 | true =>
  rw [if_pos rfl]
  have hq : quoteL (byt (x :: R)) = none := by
   have hle := wordN_le (byt (x :: R))
   unfold quoteL
   split
   ·rfl
   ·split
    ·unfold wordOr
     rw [if_neg (by omega), kind_long (by rw [List.length_take]; omega)]; rfl
    ·rfl
  have hh : hereS (byt (x :: R)) = none := by
   unfold hereS
   rw [if_neg]
   rintro ⟨e, _⟩
   rw [byt_cons] at e
   exact h2 (by simpa using e)
  have hv : varS ref (byt (x :: R)) = some 0 := by
   rw [byt_cons]
   cases hb : byt R with
   | nil => rfl
   | cons d t =>
    unfold varS
    simp only [h1]
    rfl
  rw [hq, hh, hv]
  exact hp
theorem var_two (B : List UInt8) : varS true B = varS false B ∨ (varS true B = none ∧ varS false B = some 0 ∧ ∃ c t, B = c :: 95 :: t ∧ sigilB (c.toNat : Int) = true ∧ 12 < wordN (95 :: t)) := by
 unfold varS
 match B with
 | [] => exact .inl rfl
 | [_] => exact .inl rfl
 | c :: d :: t =>
  simp only
  by_cases hs : sigilB (c.toNat : Int) = true
  ·rw [if_pos hs, if_pos hs]
   by_cases h12 : 12 < wordN (d :: t)
   ·rw [if_pos h12, if_pos h12]
    by_cases hd : d = 95
    ·subst hd
     right
     exact ⟨by simp, by simp, c, t, rfl, hs, h12⟩
    ·left
     simp [hd]
   ·rw [if_neg h12, if_neg h12]; exact .inl rfl
  ·rw [if_neg hs, if_neg hs]; exact .inl rfl
theorem skip_word {x : Nat × UInt8} {R : Src} (h : 12 < wordN (byt (x :: R))) : skipS false (x :: R) = x :: R := by
 have ha : alphaB (x.2.toNat : Int) = true := word_head (t := byt R) (by rw [byt_cons] at h; omega)
 obtain ⟨_, _, h3, h4⟩ := (byte_facts x.2).1 ha
 rw [skipS, if_neg (by rw [h3]; decide), if_neg h4]
theorem next_two (R : Src) (term : Bool) : nextS true R term = nextS false R term ∨ (nextS true R term = none ∧ (nextS false R term = none ∨ ∃ t x R2, nextS false R term = some (t, x :: R2) ∧ 12 < wordN (byt (x :: R2)))) := by
 unfold nextS
 cases term with
 | false => exact .inl rfl
 | true =>
  rw [if_pos rfl, if_pos rfl]
  cases hq : quoteL (byt R) with
  | some r => exact .inl rfl
  | none =>
   simp only
   cases hh : hereS (byt R) with
   | some r => exact .inl rfl
   | none =>
    simp only
    rcases var_two (byt R) with h | ⟨h1, h2, c, t, hB, hs, h12⟩
    ·rw [h]; exact .inl rfl
    ·rw [h1, h2]
     refine .inr ⟨rfl, ?_⟩
     simp only
     obtain ⟨ha, hd⟩ := (byte_facts c).2 hs
     match R, hB with
     | x :: y :: R', hB =>
      rw [byt_cons, byt_cons] at hB
      injection hB with e1 e2
      injection e2 with e2 e3
      have hn := signS_95 c t
      have hB2 : byt (x :: y :: R') = c :: 95 :: t := by rw [byt_cons, byt_cons, e1, e2, e3]
      unfold plainS
      simp only [e1, ha, hd, Bool.false_eq_true, if_false, hB2]
      split
      ·rename_i h0
       have hn1 : signS (c :: 95 :: t) true = 1 := by omega
       right
       refine ⟨(asIs 3 1 (x :: y :: R')).1, y, R', ?_, by rw [byt_cons, e2, e3]; exact h12⟩
       rw [hn1]; rfl
      ·exact .inl rfl
     | [x], hB => simp at hB
     | [], hB => simp at hB
theorem scan_long (ref : Bool) {x : Nat × UInt8} {R : Src} (h : 12 < wordN (byt (x :: R))) (f : Nat) (term : Bool) (rt : List RTok) (tms : List Bool) (ops : List Nat) : scanS ref f (x :: R) term rt tms ops = none := by
 cases f with
 | zero => rfl
 | succ f =>
  rw [scanS, skip_word h, if_neg (by simp), next_long ref term h]
theorem scan_two : ∀ (f : Nat) (R : Src) (term : Bool) (rt : List RTok) (tms : List Bool) (ops : List Nat), scanS true f R term rt tms ops = scanS false f R term rt tms ops
 | 0, _, _, _, _, _ => rfl
 | f + 1, R, term, rt, tms, ops => by
  rw [scanS, scanS]
  split
  ·rfl
  ·rcases next_two (skipS false R) term with h | ⟨h1, h2 | ⟨t, x, R2, h2, h3⟩⟩
   ·rw [h]
    cases nextS false (skipS false R) term with
    | none => rfl
    | some r => exact scan_two f _ _ _ _ _
   ·rw [h1, h2]
   ·rw [h1, h2]
    exact (scan_long false h3 f _ _ _ _).symm
theorem lexO_two (l : List UInt8) : lexO true l = lexO false l := by unfold lexO; rw [scan_two]
end Go.Proofs.YthmopindibdhnaaGreatDoor.G
