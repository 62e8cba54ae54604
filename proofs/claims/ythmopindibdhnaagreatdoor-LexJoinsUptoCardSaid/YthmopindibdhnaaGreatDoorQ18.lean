import Derived.Test.YthmopindibdhnaaGreatDoorQ00
import Derived.Test.YthmopindibdhnaaGreatDoorQ17
import Derived.Test.YthmopindibdhnaaGreatDoorQ11
namespace Go.Proofs.YthmopindibdhnaaGreatDoor.G
open Go.RowKit Go.Shelf Go.Maps
set_option maxRecDepth 100000 in
set_option maxHeartbeats 1000000 in
theorem partner_r (x : Int) (w : World) : Calls Tryz.prog 72 #[.int .u8 x] w fun e w' => e = .returned (.int .u8 (partR x)) ∧ w = w' := by
 obtain ⟨R, hR⟩ : ∃ R, R = partR x := ⟨_, rfl⟩
 rw [← hR]
 have HR := Lh hR
 clear hR
 go_enter Tryz.func72, Tryz.ntmps72
 go_wp2
 all_goals
  go_ret
  refine ⟨?_, rfl⟩
  rw [HR.out]
  simp_all [partR]
def endN (o e : UInt8) : Nat → List UInt8 → Option Nat
 | _, [] => none
 | d, [x] => if x = e ∧ d = 0 then some 0 else none
 | d, x :: y :: t =>
  if x = 92 then (endN o e d t).map (· + 2)
  else if x = e then (if d = 0 then some 0 else (endN o e (d - 1) (y :: t)).map (· + 1))
  else if x = o then (endN o e (d + 1) (y :: t)).map (· + 1)
  else (endN o e d (y :: t)).map (· + 1)
theorem endN_one (o e : UInt8) (d : Nat) (x : UInt8) : endN o e d [x] = if x = e ∧ d = 0 then some 0 else none := by rw [endN]
theorem endN_cons {o e : UInt8} (he : e ≠ 92) (d : Nat) (x : UInt8) (t : List UInt8) : endN o e d (x :: t) =
  if x = 92 then (endN o e d (t.drop 1)).map (· + 2)
  else if x = e then (if d = 0 then some 0 else (endN o e (d - 1) t).map (· + 1))
  else if x = o then (endN o e (d + 1) t).map (· + 1)
  else (endN o e d t).map (· + 1) := by
 cases t with
 | nil =>
  by_cases h1 : x = 92
  ·have : ¬ (x = e ∧ d = 0) := fun h => he (h.1.symm.trans h1)
   rw [endN_one, if_neg this, if_pos h1]; rfl
  ·by_cases h2 : x = e
   ·by_cases h3 : d = 0
    ·rw [endN_one, if_pos ⟨h2, h3⟩, if_neg h1, if_pos h2, if_pos h3]
    ·rw [endN_one, if_neg (fun h => h3 h.2), if_neg h1, if_pos h2, if_neg h3]; rfl
   ·rw [endN_one, if_neg (fun h => h2 h.1), if_neg h1, if_neg h2]
    split <;> rfl
 | cons y t => rw [endN]; rfl
theorem part_end (o e : UInt8) : ∀ (d : Nat) (R : Src), partS o e d R = (endN o e d (byt R)).map fun n => ((byt R).take n, R.drop (n + 1))
 | _, [] => rfl
 | d, [x] => by
  rw [partS]
  show _ = (endN o e d [x.2]).map _
  rw [endN]
  split <;> rfl
 | d, x :: y :: t => by
  have h1 := part_end o e d t
  have h2 := part_end o e (d - 1) (y :: t)
  have h3 := part_end o e (d + 1) (y :: t)
  have h4 := part_end o e d (y :: t)
  rw [partS, byt_cons, byt_cons, endN]
  rw [byt_cons] at h2 h3 h4
  split
  ·rw [h1]
   cases endN o e d (byt t) with
   | none => rfl
   | some n => rfl
  ·split
   ·split
    ·rfl
    ·rw [h2]
     cases endN o e (d - 1) (y.2 :: byt t) with
     | none => rfl
     | some n => rfl
   ·split
    ·rw [h3]
     cases endN o e (d + 1) (y.2 :: byt t) with
     | none => rfl
     | some n => rfl
    ·rw [h4]
     cases endN o e d (y.2 :: byt t) with
     | none => rfl
     | some n => rfl
def optI : Option Nat → Int
 | none => -1
 | some n => n
theorem partR_ok : ∀ o : UInt8, (delimB (o.toNat : Int) = true → partR (o.toNat : Int) = ((partU o).toNat : Int) ∧ partU o ≠ 92 ∧ partR (o.toNat : Int) ≠ 0) ∧ (delimB (o.toNat : Int) = false → partR (o.toNat : Int) = 0) := by
 have H : ∀ n : Fin 256, (delimB ((UInt8.ofNat n.val).toNat : Int) = true → partR ((UInt8.ofNat n.val).toNat : Int) = ((partU (UInt8.ofNat n.val)).toNat : Int) ∧ partU (UInt8.ofNat n.val) ≠ 92 ∧ partR ((UInt8.ofNat n.val).toNat : Int) ≠ 0) ∧ (delimB ((UInt8.ofNat n.val).toNat : Int) = false → partR ((UInt8.ofNat n.val).toNat : Int) = 0) := by
  unfold partR partU partI
  decide +kernel
 intro o
 have := H ⟨o.toNat, o.toNat_lt⟩
 simpa using this
theorem u8_neq {x y : UInt8} (h : x ≠ y) : ((x.toNat : Int) == (y.toNat : Int)) = false := by
 have : x.toNat ≠ y.toNat := fun e => h (UInt8.toNat_inj.1 e)
 simp; omega
set_option maxRecDepth 100000 in
set_option maxHeartbeats 2000000 in
theorem quoted_r (s : ByteArray) (hs : s.size ≤ 1000000) (o : UInt8) (ho : delimB (o.toNat : Int) = true) (a : Nat) (ha : a ≤ s.size) (w : World) :
  Calls Tryz.prog 92 #[.string s, .int .i64 a, .int .u8 (o.toNat : Int)] w fun e w' => e = .returned (.int .i64 (optI ((endN o (partU o) 0 (s.data.toList.drop a)).map (· + a)))) ∧ w = w' := by
 obtain ⟨e1, e2, _⟩ := (partR_ok o).1 ho
 have HP := Lh (fun w => partner_r (o.toNat : Int) w)
 rw [e1] at HP
 generalize partU o = q at *
 have Hq := Lh e2
 obtain ⟨l, hl⟩ : ∃ l, l = s.data.toList := ⟨_, rfl⟩
 have hsz : s.size = l.length := by rw [hl, ← sizeL]
 have HB := Lh (fun n (h : n < s.size) (h' : n < l.length) => (show s[n] = l[n] by subst hl; exact byteE s n h h'))
 have Hsz := Lh hsz
 rw [← hl]
 obtain ⟨R, hR⟩ : ∃ R, R = (endN o q 0 (l.drop a)).map (· + a) := ⟨_, rfl⟩
 have HR := Lh hR
 rw [← hR]
 clear hl hsz hR e1 e2 ho
 go_enter Tryz.func92, Tryz.ntmps92
 go_wp2_with fail
 refine (HP.out _).mono ?_
 rintro e w1 ⟨rfl, rfl⟩
 clear HP
 go_wp2_with fail
 go_loopw [1, 8] (fun iv dv wr => ∃ i d : Nat, iv = .int .i64 (i : Int) ∧ dv = .int .i64 (d : Int) ∧ i ≤ s.size + 1 ∧ d ≤ i ∧ Hid (R = (endN o q d (l.drop i)).map (· + i)) ∧ w = wr) (fun iv _ _ => leftTo (s.size + 1) iv)
 case atStart => exact ⟨a, 0, rfl, rfl, by omega, Nat.zero_le _, HR, rfl⟩
 case round =>
  obtain ⟨i, d, rfl, rfl, hi, hd, HRi, rfl⟩ := hrel
  have Hi := Lh hi
  have Hd0 := Lh hd
  clear HR hi hd
  by_cases hc : i < s.size
  ·have hci : (i : Int) < (s.size : Int) := by omega
   have hL : i < l.length := by rw [← Hsz.out]; exact hc
   have ex := HB.out i hc hL
   have hst := endN_cons (o := o) (e := q) Hq.out d l[i] (l.drop (i + 1))
   rw [← List.drop_eq_getElem_cons hL, List.drop_drop] at hst
   have Hst := Lh hst
   have hi1 : (i : Int) + 1 ≤ 9223372036854775807 := by omega
   have hi2 : -9223372036854775808 ≤ (i : Int) + 1 := by omega
   have Hdm : Hid (d ≤ 2000000) := Lh (by have := Hd0.out; omega)
   generalize l[i] = x at *
   clear HB hL hst
   by_cases h1 : x = 92
   ·have t1 : ((x.toNat : Int) == 92) = true := by rw [h1]; rfl
    have HR2 : Hid (R = (endN o q d (l.drop (i + 2))).map (· + (i + 2))) := Lh (by
     rw [HRi.out, Hst.out, if_pos h1, Option.map_map]; congr 1; funext n; show n + 2 + i = n + (i + 2); omega)
    obtain ⟨k, hk⟩ : ∃ k, k = i + 1 := ⟨_, rfl⟩
    have e1 : (i : Int) + 1 = (k : Int) := by omega
    have e2 : (k : Int) + 1 ≤ 9223372036854775807 := by omega
    have e3 : -9223372036854775808 ≤ (k : Int) + 1 := by omega
    have Hk := Lh hk
    clear h1 HRi Hst hi1 hi2 hk
    go_wp2_with fail
    go_roundw
    case rel => exact ⟨i + 2, d, by congr 1; have := Hk.out; omega, rfl, by omega, by have := Hd0.out; omega, HR2, trivial⟩
    case measure => simp only [leftTo]; omega
   ·have t1 : ((x.toNat : Int) == 92) = false := u8_neq (y := 92) h1
    by_cases h2 : x = q
    ·have t2 : ((x.toNat : Int) == (q.toNat : Int)) = true := by rw [h2]; simp
     by_cases h3 : d = 0
     ·have t3 : ((d : Int) == 0) = true := by rw [h3]; rfl
      have HR2 : Hid (R = some i) := Lh (by
       rw [HRi.out, Hst.out, if_neg h1, if_pos h2, if_pos h3]; simp)
      clear h1 h2 h3 HRi Hst
      go_wp2_with fail
      go_ret
      exact ⟨by rw [HR2.out]; rfl, rfl⟩
     ·have t3 : ((d : Int) == 0) = false := by simp; exact h3
      have HR2 : Hid (R = (endN o q (d - 1) (l.drop (i + 1))).map (· + (i + 1))) := Lh (by
       rw [HRi.out, Hst.out, if_neg h1, if_pos h2, if_neg h3, Option.map_map]; congr 1; funext n; show n + 1 + i = n + (i + 1); omega)
      have Hd : Hid (0 < d) := Lh (by omega)
      have hd3 : (d : Int) - 1 ≤ 9223372036854775807 := by have := Hdm.out; omega
      have hd4 : -9223372036854775808 ≤ (d : Int) - 1 := by omega
      clear h1 h2 h3 HRi Hst
      go_wp2_with fail
      go_roundw
      case rel => exact ⟨i + 1, d - 1, rfl, by congr 1; have := Hd.out; omega, by omega, by have := Hd0.out; omega, HR2, trivial⟩
      case measure => simp only [leftTo]; omega
    ·have t2 : ((x.toNat : Int) == (q.toNat : Int)) = false := u8_neq h2
     by_cases h3 : x = o
     ·have t3 : ((x.toNat : Int) == (o.toNat : Int)) = true := by rw [h3]; simp
      have HR2 : Hid (R = (endN o q (d + 1) (l.drop (i + 1))).map (· + (i + 1))) := Lh (by
       rw [HRi.out, Hst.out, if_neg h1, if_neg h2, if_pos h3, Option.map_map]; congr 1; funext n; show n + 1 + i = n + (i + 1); omega)
      have hd1 : (d : Int) + 1 ≤ 9223372036854775807 := by have := Hdm.out; omega
      have hd2 : -9223372036854775808 ≤ (d : Int) + 1 := by omega
      clear h1 h2 h3 HRi Hst
      go_wp2_with fail
      go_roundw
      case rel => exact ⟨i + 1, d + 1, rfl, rfl, by omega, by have := Hd0.out; omega, HR2, trivial⟩
      case measure => simp only [leftTo]; omega
     ·have t3 : ((x.toNat : Int) == (o.toNat : Int)) = false := u8_neq h3
      have HR2 : Hid (R = (endN o q d (l.drop (i + 1))).map (· + (i + 1))) := Lh (by
       rw [HRi.out, Hst.out, if_neg h1, if_neg h2, if_neg h3, Option.map_map]; congr 1; funext n; show n + 1 + i = n + (i + 1); omega)
      clear h1 h2 h3 HRi Hst
      go_wp2_with fail
      go_roundw
      case rel => exact ⟨i + 1, d, rfl, rfl, by omega, by have := Hd0.out; omega, HR2, trivial⟩
      case measure => simp only [leftTo]; omega
  ·have hci : decide ((i : Int) < (s.size : Int)) = false := by simp; omega
   have hci' : decide (i < s.size) = false := by simp; omega
   have HE : Hid (R = none) := Lh (by
    rw [HRi.out, List.drop_eq_nil_of_le (by have := Hsz.out; omega)]
    cases d <;> rfl)
   clear HB hc HRi
   go_wp2_with fail
   go_ret
   exact ⟨by rw [HE.out]; rfl, rfl⟩
theorem flagN_out {l : List UInt8} {a n : Nat} (h : l.length ≤ a + n) : ∀ all, flagN l a all n = n
 | [] => rfl
 | c :: t => by
  rw [flagN, if_neg (by rw [List.getElem?_eq_none h]; exact nofun)]
  exact flagN_out h t
theorem flagN_le {l : List UInt8} {a : Nat} : ∀ (all : List UInt8) (n : Nat), flagN l a all n ≤ n + all.length
 | [], n => Nat.le_refl _
 | c :: t, n => by
  rw [flagN]
  have := flagN_le (l := l) (a := a) t (if l[a + n]? = some c then n + 1 else n)
  simp only [List.length_cons]
  split at this <;> rename_i h <;> simp only [h, if_true, if_false] <;> omega
set_option maxRecDepth 100000 in
set_option maxHeartbeats 2000000 in
theorem flags_r (s all : ByteArray) (hs : s.size ≤ 1000000) (hall : all.size ≤ 100) (a : Nat) (ha : a ≤ s.size) (w : World) :
  Calls Tryz.prog 97 #[.string s, .int .i64 a, .string all] w fun e w' => e = .returned (.int .i64 (flagN s.data.toList a all.data.toList 0 : Nat)) ∧ Gr w w' := by
 obtain ⟨l, hl⟩ : ∃ l, l = s.data.toList := ⟨_, rfl⟩
 obtain ⟨m, hm⟩ : ∃ m, m = all.data.toList := ⟨_, rfl⟩
 have hsz : s.size = l.length := by rw [hl, ← sizeL]
 have hmz : all.size = m.length := by rw [hm, ← sizeL]
 have HB := Lh (fun n (h : n < s.size) (h' : n < l.length) => (show s[n] = l[n] by subst hl; exact byteE s n h h'))
 have HM := Lh (fun n (h : n < all.size) (h' : n < m.length) => (show all[n] = m[n] by subst hm; exact byteE all n h h'))
 have Hsz := Lh hsz
 have Hmz := Lh hmz
 rw [← hl, ← hm]
 obtain ⟨R, hR⟩ : ∃ R, R = flagN l a m 0 := ⟨_, rfl⟩
 have HR := Lh hR
 rw [← hR]
 have Ha := Lh ha
 clear hl hm hsz hmz hR ha
 go_enter Tryz.func97, Tryz.ntmps97
 go_wp2_with fail
 go_loopw [7, 8] (fun nv iv wr => ∃ n i : Nat, nv = .int .i64 (n : Int) ∧ iv = .int .i64 (i : Int) ∧ Hid (n ≤ i) ∧ Hid (i ≤ all.size) ∧ Hid (R = flagN l a (m.drop i) n) ∧ Gr w wr) (fun _ iv _ => leftTo all.size iv)
 case atStart => exact ⟨0, 0, rfl, rfl, Lh (Nat.le_refl _), Lh (Nat.zero_le _), HR, Gr.refl w⟩
 case round =>
  obtain ⟨n, i, rfl, rfl, hni, hi, HRi, hg⟩ := hrel
  have Hg := Lh hg
  clear HR hg
  by_cases hc : i < all.size
  ·obtain ⟨k, hk⟩ : ∃ k, k = a + n := ⟨_, rfl⟩
   have e1 : (a : Int) + (n : Int) = (k : Int) := by omega
   have hk2 : k ≤ 2000000 := by have := Ha.out; have := hni.out; have := hi.out; omega
   by_cases hd : k < s.size
   ·have hci : (i : Int) < (all.size : Int) := by omega
    have hdi : (k : Int) < (s.size : Int) := by omega
    have hL : k < l.length := by rw [← Hsz.out]; exact hd
    have hM : i < m.length := by rw [← Hmz.out]; exact hc
    have ex := HB.out k hd hL
    have ey := HM.out i hc hM
    have hi1 : (i : Int) + 1 ≤ 9223372036854775807 := by omega
    have hi2 : -9223372036854775808 ≤ (i : Int) + 1 := by omega
    have hn1 : (n : Int) + 1 ≤ 9223372036854775807 := by omega
    have hn2 : -9223372036854775808 ≤ (n : Int) + 1 := by omega
    have HN : Hid (R = flagN l a (m.drop (i + 1)) (if l[k] = m[i] then n + 1 else n)) := Lh (by
     rw [HRi.out, flagN_step hM, ← hk, List.getElem?_eq_getElem hL]
     simp only [Option.some.injEq])
    generalize l[k] = x at *
    generalize m[i] = y at *
    clear HB HM hL hM hk hk2 HRi
    by_cases h : x = y
    ·have t1 : ((x.toNat : Int) == (y.toNat : Int)) = true := by rw [h]; simp
     have HN2 := Lh (by have := HN.out; rw [if_pos h] at this; exact this)
     clear h HN
     go_wp2_with fail
     go_quiet (fail)
     go_wp2_with fail
     go_roundw
     case rel => exact ⟨n + 1, i + 1, rfl, rfl, Lh (by have := hni.out; omega), Lh hc, HN2, Hg.out.drewN _⟩
     case measure => simp only [leftTo]; omega
    ·have t1 : ((x.toNat : Int) == (y.toNat : Int)) = false := u8_neq h
     have HN2 := Lh (by have := HN.out; rw [if_neg h] at this; exact this)
     clear h HN hn1 hn2
     go_wp2_with fail
     go_quiet (fail)
     go_wp2_with fail
     go_roundw
     case rel => exact ⟨n, i + 1, rfl, rfl, Lh (by have := hni.out; omega), Lh hc, HN2, Hg.out.drewN _⟩
     case measure => simp only [leftTo]; omega
   ·have hci : (i : Int) < (all.size : Int) := by omega
    have hdi : decide ((k : Int) < (s.size : Int)) = false := by simp; omega
    have HE : Hid (R = n) := Lh (by rw [HRi.out]; exact flagN_out (by rw [← hk, ← Hsz.out]; omega) _)
    have hk3 : (k : Int) ≤ 2000000 := by omega
    have hk4 : ¬ (k : Int) < (s.size : Int) := by omega
    clear HB HM hk hk2 HRi hd
    go_wp2_with fail
    go_ret
    exact ⟨by rw [HE.out]; rfl, Hg.out⟩
  ·have hci : decide ((i : Int) < (all.size : Int)) = false := by simp; omega
   have hci2 : ¬ (i : Int) < (all.size : Int) := by omega
   have HE : Hid (R = n) := Lh (by rw [HRi.out, List.drop_eq_nil_of_le (by rw [← Hmz.out]; omega)]; rfl)
   clear HB HM HRi hc
   go_wp2_with fail
   go_ret
   exact ⟨by rw [HE.out]; rfl, Hg.out⟩
def kindI (l : List UInt8) : Int := if l = [113] then 4 else if l = [113, 113] then 5 else if l = [113, 119] then 6 else if l = [109] then 7 else if l = [115] then 8 else if l = [116, 114] then 9 else -1
set_option maxRecDepth 100000 in
theorem kindOf_r (s : ByteArray) (w : World) : Calls Tryz.prog 73 #[.string s] w fun e w' => e = .returned (.int .i64 (kindI s.data.toList)) ∧ w = w' := by
 obtain ⟨R, hR⟩ : ∃ R, R = kindI s.data.toList := ⟨_, rfl⟩
 have HR : Hid (R = if s.toList = [113] then 4 else if s.toList = [113, 113] then 5 else if s.toList = [113, 119] then 6 else if s.toList = [109] then 7 else if s.toList = [115] then 8 else if s.toList = [116, 114] then 9 else -1) := Lh (by rw [hR, ByteArray.toList_eq]; rfl)
 rw [← hR]
 clear hR
 go_enter Tryz.func73, Tryz.ntmps73
 go_wp2
 all_goals
  go_ret
  refine ⟨?_, rfl⟩
  rw [HR.out]
  simp_all
def plR (o q : UInt8) : List UInt8 → List UInt8
 | [] => []
 | [x] => [x]
 | x :: y :: t => if x = 92 ∧ (y = 92 ∨ y = o ∨ y = q) then y :: plR o q t else x :: plR o q (y :: t)
theorem plR_len (o q : UInt8) : ∀ l, (plR o q l).length ≤ l.length
 | [] => Nat.le_refl _
 | [x] => Nat.le_refl _
 | x :: y :: t => by
  rw [plR]
  split
  ·have := plR_len o q t; simp; omega
  ·have := plR_len o q (y :: t); simp at this ⊢; omega
theorem plR_two {o q : UInt8} {l : List UInt8} {i : Nat} (h : i < l.length) (h2 : i + 1 < l.length) (hc : l[i] = 92 ∧ (l[i + 1] = 92 ∨ l[i + 1] = o ∨ l[i + 1] = q)) : plR o q (l.drop i) = l[i + 1] :: plR o q (l.drop (i + 2)) := by
 rw [List.drop_eq_getElem_cons h, List.drop_eq_getElem_cons h2, plR, if_pos hc]
theorem plR_one {o q : UInt8} {l : List UInt8} {i : Nat} (h : i < l.length) (hc : ∀ h2 : i + 1 < l.length, ¬ (l[i] = 92 ∧ (l[i + 1] = 92 ∨ l[i + 1] = o ∨ l[i + 1] = q))) : plR o q (l.drop i) = l[i] :: plR o q (l.drop (i + 1)) := by
 rw [List.drop_eq_getElem_cons h]
 by_cases h2 : i + 1 < l.length
 ·rw [List.drop_eq_getElem_cons h2, plR, if_neg (hc h2)]
 ·rw [List.drop_eq_nil_of_le (by omega)]; rfl
set_option maxRecDepth 100000 in
set_option maxHeartbeats 2000000 in
theorem plain_r (s : ByteArray) (hs : s.size ≤ 100000) (o q : UInt8) (hq : partR (o.toNat : Int) = (q.toNat : Int)) (w : World) :
  Calls Tryz.prog 93 #[.string s, .int .u8 (o.toNat : Int)] w fun e w' => e = .returned (.string (ba (plR o q s.data.toList))) ∧ Gr w w' := by
 have HP := Lh (fun w => partner_r (o.toNat : Int) w)
 rw [hq] at HP
 obtain ⟨l, hl⟩ : ∃ l, l = s.data.toList := ⟨_, rfl⟩
 have hsz : s.size = l.length := by rw [hl, ← sizeL]
 have HB := Lh (fun n (h : n < s.size) (h' : n < l.length) => (show s[n] = l[n] by subst hl; exact byteE s n h h'))
 have HX := Lh (fun n (h' : n < l.length) => (show (s.extract n (n + 1)).data.toList = [l[n]] by
  subst hl; rw [extractE, List.drop_eq_getElem_cons h']; simp))
 have Hsz := Lh hsz
 rw [← hl]
 obtain ⟨R, hR⟩ : ∃ R : ByteArray, R = ba (plR o q l) := ⟨_, rfl⟩
 rw [← hR]
 have HR : Hid (R.data.toList = plR o q l) := Lh (by rw [hR, ba_data])
 have HL : Hid ((plR o q l).length ≤ s.size) := Lh (by rw [hsz]; exact plR_len o q l)
 clear hl hsz hR hq
 go_enter Tryz.func93, Tryz.ntmps93
 go_wp2_with fail
 go_loopw [5, 6] (fun ov iv wr => ∃ (i : Nat) (u : ByteArray), iv = .int .i64 (i : Int) ∧ ov = .string u ∧ i ≤ s.size ∧ Hid (R.data.toList = u.data.toList ++ plR o q (l.drop i)) ∧ Gr w wr) (fun _ iv _ => leftTo s.size iv)
 case atStart => exact ⟨0, _, rfl, rfl, Nat.zero_le _, Lh (by rw [HR.out]; rfl), Gr.refl w⟩
 case round =>
  obtain ⟨i, u, rfl, rfl, hi, hO, hG⟩ := hrel
  have Gg := Lh hG
  have hus : u.size ≤ 100000 := by
   have h1 := congrArg List.length hO.out
   rw [HR.out, List.length_append, sizeL] at h1
   have := HL.out; omega
  have hui : (u.size : Int) ≤ 100000 := by omega
  clear hG HR HL hus
  by_cases hc : i < s.size
  ·have hci : (i : Int) < (s.size : Int) := by omega
   have hL : i < l.length := by rw [← Hsz.out]; exact hc
   have ex := HB.out i hc hL
   have hX := Lh (HX.out i hL)
   have hi1 : (i : Int) + 1 ≤ 9223372036854775807 := by omega
   have hi2 : -9223372036854775808 ≤ (i : Int) + 1 := by omega
   by_cases h1 : l[i] = 92
   ·have t1 : ((l[i].toNat : Int) == 92) = true := by rw [h1]; rfl
    by_cases hd : i + 1 < s.size
    ·have hL2 : i + 1 < l.length := by rw [← Hsz.out]; exact hd
     obtain ⟨k, hk⟩ : ∃ k, k = i + 1 := ⟨_, rfl⟩
     have Hk := Lh hk
     have ek : (i : Int) + 1 = (k : Int) := by omega
     have hdk : (k : Int) < (s.size : Int) := by omega
     have hk1 : (k : Int) + 1 ≤ 9223372036854775807 := by omega
     have hk2 : -9223372036854775808 ≤ (k : Int) + 1 := by omega
     have hLk : k < l.length := by rw [hk]; exact hL2
     have hds : k < s.size := by rw [hk]; exact hd
     have ey := HB.out k hds hLk
     have hY := Lh (HX.out k hLk)
     by_cases h2 : l[i + 1] = 92 ∨ l[i + 1] = o ∨ l[i + 1] = q
     ·have hst := Lh (plR_two hL hL2 ⟨h1, h2⟩)
      have hO2 : Hid (R.data.toList = (u.data.toList ++ [l[k]]) ++ plR o q (l.drop (i + 2))) := Lh (by subst hk; rw [hO.out, hst.out]; simp)
      have h2' : l[k] = 92 ∨ l[k] = o ∨ l[k] = q := by subst hk; exact h2
      generalize l[i] = x at *
      clear h2 hst hL2 hd
      generalize l[k] = y at *
      clear hi1 hi2
      by_cases h3 : y = 92
      ·have t2 : ((y.toNat : Int) == 92) = true := by rw [h3]; rfl
       clear h1 h3 h2' HB HX hO hL hLk hk
       go_wp2_with fail
       go_quiet ((go_at_call 72; exact quiet_at (HP.out _)))
       go_wp2_with fail
       go_roundw
       case rel => exact ⟨i + 2, _, by congr 1; have := Hk.out; omega, rfl, by have := Hk.out; omega, Lh (by rw [ByteArray.data_append, Array.toList_append, hY.out]; exact hO2.out), Gg.out.drewN _⟩
       case measure => simp only [leftTo]; have := Hk.out; omega
      ·have t2 : ((y.toNat : Int) == 92) = false := u8_neq (y := 92) h3
       by_cases h4 : y = o
       ·have t3 : ((y.toNat : Int) == (o.toNat : Int)) = true := by rw [h4]; simp
        clear h1 h3 h4 h2' HB HX hO hL hLk hk
        go_wp2_with fail
        go_quiet ((go_at_call 72; exact quiet_at (HP.out _)))
        go_wp2_with fail
        go_roundw
        case rel => exact ⟨i + 2, _, by congr 1; have := Hk.out; omega, rfl, by have := Hk.out; omega, Lh (by rw [ByteArray.data_append, Array.toList_append, hY.out]; exact hO2.out), Gg.out.drewN _⟩
        case measure => simp only [leftTo]; have := Hk.out; omega
       ·have t3 : ((y.toNat : Int) == (o.toNat : Int)) = false := u8_neq h4
        have h5 : y = q := (h2'.resolve_left h3).resolve_left h4
        have t4 : ((y.toNat : Int) == (q.toNat : Int)) = true := by rw [h5]; simp
        clear h1 h3 h4 h5 h2' HB HX hO hL hLk hk
        go_wp2_with fail
        go_quiet ((go_at_call 72; exact quiet_at (HP.out _)))
        go_wp2_with fail
        go_roundw
        case rel => exact ⟨i + 2, _, by congr 1; have := Hk.out; omega, rfl, by have := Hk.out; omega, Lh (by rw [ByteArray.data_append, Array.toList_append, hY.out]; exact hO2.out), Gg.out.drewN _⟩
        case measure => simp only [leftTo]; have := Hk.out; omega
     ·have hst := Lh (plR_one (o := o) (q := q) hL (fun _ h => h2 h.2))
      have h2' : l[k] ≠ 92 ∧ l[k] ≠ o ∧ l[k] ≠ q := by subst hk; exact ⟨fun h => h2 (.inl h), fun h => h2 (.inr (.inl h)), fun h => h2 (.inr (.inr h))⟩
      have hO2 : Hid (R.data.toList = (u.data.toList ++ [l[i]]) ++ plR o q (l.drop (i + 1))) := Lh (by rw [hO.out, hst.out]; simp)
      generalize l[i] = x at *
      clear h2 hst hL2 hd
      generalize l[k] = y at *
      have t2 : ((y.toNat : Int) == 92) = false := u8_neq (y := 92) h2'.1
      have t3 : ((y.toNat : Int) == (o.toNat : Int)) = false := u8_neq h2'.2.1
      have t4 : ((y.toNat : Int) == (q.toNat : Int)) = false := u8_neq h2'.2.2
      clear hi1 hi2
      clear h1 h2' HB HX hO hL hLk hk hk1 hk2
      go_wp2_with fail
      go_quiet ((go_at_call 72; exact quiet_at (HP.out _)))
      go_wp2_with fail
      go_roundw
      case rel => exact ⟨i + 1, _, by rw [Hk.out], rfl, by omega, Lh (by rw [ByteArray.data_append, Array.toList_append, Hk.out, hX.out]; exact hO2.out), Gg.out.drewN _⟩
      case measure => simp only [leftTo]; omega
    ·have hst := Lh (plR_one (o := o) (q := q) hL (fun h2 _ => hd (by rw [Hsz.out]; exact h2)))
     have hdk : decide ((i : Int) + 1 < (s.size : Int)) = false := by simp; omega
     have hdk2 : ¬ (i : Int) + 1 < (s.size : Int) := by omega
     have hO2 : Hid (R.data.toList = (u.data.toList ++ [l[i]]) ++ plR o q (l.drop (i + 1))) := Lh (by rw [hO.out, hst.out]; simp)
     generalize l[i] = x at *
     clear h1 HB HX hO hst hL hd
     go_wp2_with fail
     go_quiet (fail)
     go_wp2_with fail
     go_roundw
     case rel => exact ⟨i + 1, _, rfl, rfl, by omega, Lh (by rw [ByteArray.data_append, Array.toList_append, hX.out]; exact hO2.out), Gg.out.drewN _⟩
     case measure => simp only [leftTo]; omega
   ·have t1 : ((l[i].toNat : Int) == 92) = false := u8_neq (y := 92) h1
    have hst := Lh (plR_one (o := o) (q := q) hL (fun h2 h => h1 h.1))
    have hO2 : Hid (R.data.toList = (u.data.toList ++ [l[i]]) ++ plR o q (l.drop (i + 1))) := Lh (by rw [hO.out, hst.out]; simp)
    generalize l[i] = x at *
    clear h1 HB HX hO hst hL
    go_wp2_with fail
    go_quiet ((go_at_call 72; exact quiet_at (HP.out _)))
    go_wp2_with fail
    go_roundw
    case rel => exact ⟨i + 1, _, rfl, rfl, by omega, Lh (by rw [ByteArray.data_append, Array.toList_append, hX.out]; exact hO2.out), Gg.out.drewN _⟩
    case measure => simp only [leftTo]; omega
  ·have hci : decide ((i : Int) < (s.size : Int)) = false := by simp; omega
   have hci2 : ¬ (i : Int) < (s.size : Int) := by omega
   have HE : Hid (u = R) := Lh (by
    have := hO.out
    rw [List.drop_eq_nil_of_le (by rw [← Hsz.out]; omega)] at this
    have e : R.data.toList = u.data.toList := by rw [this]; simp [plR]
    cases R with | mk a => cases u with | mk b => simp only at e; rw [Array.toList_inj.1 e])
   clear HB HX hc hO
   go_wp2_with fail
   go_ret
   exact ⟨by rw [HE.out]; rfl, Gg.out⟩
def patR : List UInt8 → List UInt8
 | [] => []
 | [x] => [x]
 | x :: y :: t => if x = 92 then (if y = 47 then y :: patR t else x :: y :: patR t) else x :: patR (y :: t)
theorem patR_len : ∀ l, (patR l).length ≤ l.length
 | [] => Nat.le_refl _
 | [x] => Nat.le_refl _
 | x :: y :: t => by
  have h1 := patR_len t
  have h2 := patR_len (y :: t)
  rw [patR]
  split
  ·split <;> simp <;> omega
  ·simp at h2 ⊢; omega
theorem patR_two {l : List UInt8} {i : Nat} (h : i < l.length) (h2 : i + 1 < l.length) (hc : l[i] = 92) : patR (l.drop i) = if l[i + 1] = 47 then l[i + 1] :: patR (l.drop (i + 2)) else l[i] :: l[i + 1] :: patR (l.drop (i + 2)) := by
 rw [List.drop_eq_getElem_cons h, List.drop_eq_getElem_cons h2, patR, if_pos hc]
theorem patR_one {l : List UInt8} {i : Nat} (h : i < l.length) (hc : i + 1 < l.length → l[i] ≠ 92) : patR (l.drop i) = l[i] :: patR (l.drop (i + 1)) := by
 rw [List.drop_eq_getElem_cons h]
 by_cases h2 : i + 1 < l.length
 ·rw [List.drop_eq_getElem_cons h2, patR, if_neg (hc h2)]
 ·rw [List.drop_eq_nil_of_le (by omega)]; rfl
theorem ba_eq {u R : ByteArray} (e : R.data.toList = u.data.toList) : u = R := by
 cases R with | mk a => cases u with | mk b => simp only at e; rw [Array.toList_inj.1 e]
set_option maxRecDepth 100000 in
set_option maxHeartbeats 2000000 in
theorem pattern_r (s : ByteArray) (hs : s.size ≤ 100000) (w : World) :
  Calls Tryz.prog 95 #[.string s] w fun e w' => e = .returned (.string (ba (patR s.data.toList))) ∧ Gr w w' := by
 obtain ⟨l, hl⟩ : ∃ l, l = s.data.toList := ⟨_, rfl⟩
 have hsz : s.size = l.length := by rw [hl, ← sizeL]
 have HB := Lh (fun n (h : n < s.size) (h' : n < l.length) => (show s[n] = l[n] by subst hl; exact byteE s n h h'))
 have HX := Lh (fun n (h' : n < l.length) => (show (s.extract n (n + 1)).data.toList = [l[n]] by
  subst hl; rw [extractE, List.drop_eq_getElem_cons h']; simp))
 have Hsz := Lh hsz
 rw [← hl]
 obtain ⟨R, hR⟩ : ∃ R : ByteArray, R = ba (patR l) := ⟨_, rfl⟩
 rw [← hR]
 have HR : Hid (R.data.toList = patR l) := Lh (by rw [hR, ba_data])
 have HL : Hid ((patR l).length ≤ s.size) := Lh (by rw [hsz]; exact patR_len l)
 clear hl hsz hR
 go_enter Tryz.func95, Tryz.ntmps95
 go_wp2_with fail
 go_loopw [3, 4] (fun ov iv wr => ∃ (i : Nat) (u : ByteArray), iv = .int .i64 (i : Int) ∧ ov = .string u ∧ i ≤ s.size ∧ Hid (R.data.toList = u.data.toList ++ patR (l.drop i)) ∧ Gr w wr) (fun _ iv _ => leftTo s.size iv)
 case atStart => exact ⟨0, _, rfl, rfl, Nat.zero_le _, Lh (by rw [HR.out]; rfl), Gr.refl w⟩
 case round =>
  obtain ⟨i, u, rfl, rfl, hi, hO, hG⟩ := hrel
  have Gg := Lh hG
  have hus : u.size ≤ 100000 := by
   have h1 := congrArg List.length hO.out
   rw [HR.out, List.length_append, sizeL] at h1
   have := HL.out; omega
  have hui : (u.size : Int) ≤ 100000 := by omega
  clear hG HR HL hus
  by_cases hc : i < s.size
  ·have hci : (i : Int) < (s.size : Int) := by omega
   have hL : i < l.length := by rw [← Hsz.out]; exact hc
   have ex := HB.out i hc hL
   have hX := Lh (HX.out i hL)
   have hi1 : (i : Int) + 1 ≤ 9223372036854775807 := by omega
   have hi2 : -9223372036854775808 ≤ (i : Int) + 1 := by omega
   by_cases h1 : l[i] = 92
   ·have t1 : ((l[i].toNat : Int) == 92) = true := by rw [h1]; rfl
    by_cases hd : i + 1 < s.size
    ·have hL2 : i + 1 < l.length := by rw [← Hsz.out]; exact hd
     obtain ⟨k, hk⟩ : ∃ k, k = i + 1 := ⟨_, rfl⟩
     have Hk := Lh hk
     have ek : (i : Int) + 1 = (k : Int) := by omega
     have hdk : (k : Int) < (s.size : Int) := by omega
     have hk1 : (k : Int) + 1 ≤ 9223372036854775807 := by omega
     have hk2 : -9223372036854775808 ≤ (k : Int) + 1 := by omega
     have hLk : k < l.length := by rw [hk]; exact hL2
     have hds : k < s.size := by rw [hk]; exact hd
     have ey := HB.out k hds hLk
     have hY := Lh (HX.out k hLk)
     have hst := Lh (patR_two hL hL2 h1)
     by_cases h2 : l[k] = 47
     ·have hO2 : Hid (R.data.toList = (u.data.toList ++ [l[k]]) ++ patR (l.drop (i + 2))) := Lh (by subst hk; rw [hO.out, hst.out, if_pos h2]; simp)
      have t2 : ((l[k].toNat : Int) == 47) = true := by rw [h2]; rfl
      have t3 : ((l[k].toNat : Int) != 47) = false := by rw [h2]; rfl
      clear hst h2
      generalize l[i] = x at *
      generalize l[k] = y at *
      clear hi1 hi2 h1 HB HX hO hL hLk hk hL2 hd
      go_wp2_with fail
      go_roundw
      case rel => exact ⟨i + 2, _, by congr 1; have := Hk.out; omega, rfl, by have := Hk.out; omega, Lh (by rw [ByteArray.data_append, Array.toList_append, hY.out]; exact hO2.out), Gg.out⟩
      case measure => simp only [leftTo]; have := Hk.out; omega
     ·have hO2 : Hid (R.data.toList = (u.data.toList ++ [92] ++ [l[k]]) ++ patR (l.drop (i + 2))) := Lh (by subst hk; rw [hO.out, hst.out, if_neg h2, h1]; simp)
      have t2 : ((l[k].toNat : Int) == 47) = false := u8_neq (y := 47) h2
      have t3 : ((l[k].toNat : Int) != 47) = true := by simp only [bne, t2]; rfl
      clear hst h2
      generalize l[i] = x at *
      generalize l[k] = y at *
      clear hi1 hi2 h1 HB HX hO hL hLk hk hL2 hd
      go_wp2_with fail
      go_roundw
      case rel => exact ⟨i + 2, _, by congr 1; have := Hk.out; omega, rfl, by have := Hk.out; omega, Lh (by rw [ByteArray.data_append, Array.toList_append, hY.out, ByteArray.data_append, Array.toList_append]; exact hO2.out), Gg.out⟩
      case measure => simp only [leftTo]; have := Hk.out; omega
    ·have hst := Lh (patR_one hL (fun h2 => absurd (by rw [Hsz.out]; exact h2) hd))
     have hdk : decide ((i : Int) + 1 < (s.size : Int)) = false := by simp; omega
     have hdk2 : ¬ (i : Int) + 1 < (s.size : Int) := by omega
     have hO2 : Hid (R.data.toList = (u.data.toList ++ [l[i]]) ++ patR (l.drop (i + 1))) := Lh (by rw [hO.out, hst.out]; simp)
     generalize l[i] = x at *
     clear h1 HB HX hO hst hL hd
     go_wp2_with fail
     go_roundw
     case rel => exact ⟨i + 1, _, rfl, rfl, by omega, Lh (by rw [ByteArray.data_append, Array.toList_append, hX.out]; exact hO2.out), Gg.out⟩
     case measure => simp only [leftTo]; omega
   ·have t1 : ((l[i].toNat : Int) == 92) = false := u8_neq (y := 92) h1
    have hst := Lh (patR_one hL (fun _ => h1))
    have hO2 : Hid (R.data.toList = (u.data.toList ++ [l[i]]) ++ patR (l.drop (i + 1))) := Lh (by rw [hO.out, hst.out]; simp)
    generalize l[i] = x at *
    clear h1 HB HX hO hst hL
    go_wp2_with fail
    go_roundw
    case rel => exact ⟨i + 1, _, rfl, rfl, by omega, Lh (by rw [ByteArray.data_append, Array.toList_append, hX.out]; exact hO2.out), Gg.out⟩
    case measure => simp only [leftTo]; omega
  ·have hci : decide ((i : Int) < (s.size : Int)) = false := by simp; omega
   have hci2 : ¬ (i : Int) < (s.size : Int) := by omega
   have HE : Hid (u = R) := Lh (by
    have := hO.out
    rw [List.drop_eq_nil_of_le (by rw [← Hsz.out]; omega)] at this
    exact ba_eq (by rw [this]; simp [patR]))
   clear HB HX hc hO
   go_wp2_with fail
   go_ret
   exact ⟨by rw [HE.out]; rfl, Gg.out⟩
def woR : List UInt8 → Bool → List UInt8 → List UInt8
 | acc, _, [] => acc
 | acc, pb, c :: t => if blkB c.toNat = true then woR acc true t else woR ((if acc ≠ [] ∧ pb = true then acc ++ [32] else acc) ++ [c]) false t
def wordsR (l : List UInt8) : List UInt8 := woR [] false l
theorem woR_len : ∀ (l : List UInt8) (acc : List UInt8) (pb : Bool), (woR acc pb l).length ≤ acc.length + 2 * l.length
 | [], acc, pb => by simp [woR]
 | c :: t, acc, pb => by
  rw [woR]
  split
  ·have := woR_len t acc true; simp; omega
  ·have := woR_len t ((if acc ≠ [] ∧ pb = true then acc ++ [32] else acc) ++ [c]) false
   have h2 : ((if acc ≠ [] ∧ pb = true then acc ++ [32] else acc) ++ [c]).length ≤ acc.length + 2 := by split <;> simp
   simp only [List.length_cons]; omega
theorem woR_ge : ∀ (l : List UInt8) (acc : List UInt8) (pb : Bool), acc.length ≤ (woR acc pb l).length
 | [], acc, pb => by simp [woR]
 | c :: t, acc, pb => by
  rw [woR]
  split
  ·exact woR_ge t acc true
  ·have := woR_ge t ((if acc ≠ [] ∧ pb = true then acc ++ [32] else acc) ++ [c]) false
   have h2 : acc.length ≤ ((if acc ≠ [] ∧ pb = true then acc ++ [32] else acc) ++ [c]).length := by split <;> simp <;> omega
   omega
def pbR (l : List UInt8) : Nat → Bool
 | 0 => false
 | i + 1 => match l[i]? with
  | none => false
  | some c => blkB c.toNat
theorem pbR_at {l : List UInt8} {i : Nat} (h : i < l.length) : pbR l (i + 1) = blkB l[i].toNat := by
 show (match l[i]? with | none => false | some c => blkB c.toNat) = _
 rw [List.getElem?_eq_getElem h]
theorem woR_blk {l acc : List UInt8} {i : Nat} {pb : Bool} (h : i < l.length) (hc : blkB l[i].toNat = true) : woR acc pb (l.drop i) = woR acc (pbR l (i + 1)) (l.drop (i + 1)) := by
 rw [List.drop_eq_getElem_cons h, woR, if_pos hc, pbR_at h, hc]
theorem woR_sep {l acc : List UInt8} {i : Nat} (h : i < l.length) (hc : blkB l[i].toNat = false) (ha : acc ≠ []) : woR acc true (l.drop i) = woR ((acc ++ [32]) ++ [l[i]]) (pbR l (i + 1)) (l.drop (i + 1)) := by
 rw [List.drop_eq_getElem_cons h, woR, if_neg (by rw [hc]; decide), if_pos ⟨ha, rfl⟩, pbR_at h, hc]
theorem woR_on {l acc : List UInt8} {i : Nat} {pb : Bool} (h : i < l.length) (hc : blkB l[i].toNat = false) (ha : acc = [] ∨ pb = false) : woR acc pb (l.drop i) = woR (acc ++ [l[i]]) (pbR l (i + 1)) (l.drop (i + 1)) := by
 rw [List.drop_eq_getElem_cons h, woR, if_neg (by rw [hc]; decide), if_neg (by rintro ⟨h1, h2⟩; rcases ha with ha | ha; exact h1 ha; rw [ha] at h2; exact absurd h2 (by decide)), pbR_at h, hc]
theorem acc_ne {u : ByteArray} (h : u.data.toList ≠ []) : (u.toList != []) = true := by rw [ByteArray.toList_eq]; simpa using h
theorem acc_nil {u : ByteArray} (h : u.data.toList = []) : (u.toList != []) = false := by rw [ByteArray.toList_eq, h]; rfl
set_option maxRecDepth 100000 in
set_option maxHeartbeats 2000000 in
theorem words_r (s : ByteArray) (hs : s.size ≤ 100000) (w : World) :
  Calls Tryz.prog 94 #[.string s] w fun e w' => e = .returned (.string (ba (wordsR s.data.toList))) ∧ Gr w w' := by
 have HK := Lh blk_r
 obtain ⟨l, hl⟩ : ∃ l, l = s.data.toList := ⟨_, rfl⟩
 have hsz : s.size = l.length := by rw [hl, ← sizeL]
 have HB := Lh (fun n (h : n < s.size) (h' : n < l.length) => (show s[n] = l[n] by subst hl; exact byteE s n h h'))
 have HX := Lh (fun n (h' : n < l.length) => (show (s.extract n (n + 1)).data.toList = [l[n]] by
  subst hl; rw [extractE, List.drop_eq_getElem_cons h']; simp))
 have Hsz := Lh hsz
 rw [← hl]
 obtain ⟨R, hR⟩ : ∃ R : ByteArray, R = ba (wordsR l) := ⟨_, rfl⟩
 rw [← hR]
 have HR : Hid (R.data.toList = woR [] false l) := Lh (by rw [hR, ba_data]; rfl)
 have HL : Hid ((woR [] false l).length ≤ 2 * s.size) := Lh (by have := woR_len l [] false; rw [hsz]; simpa using this)
 clear hl hsz hR
 go_enter Tryz.func94, Tryz.ntmps94
 go_wp2_with fail
 go_loopw [3, 4] (fun ov iv wr => ∃ (i : Nat) (u : ByteArray), iv = .int .i64 (i : Int) ∧ ov = .string u ∧ i ≤ s.size ∧ Hid (R.data.toList = woR u.data.toList (pbR l i) (l.drop i)) ∧ Hid (i = 0 → u.data.toList = []) ∧ Gr w wr) (fun _ iv _ => leftTo s.size iv)
 case atStart => exact ⟨0, _, rfl, rfl, Nat.zero_le _, Lh (by rw [HR.out]; rfl), Lh (fun _ => rfl), Gr.refl w⟩
 case round =>
  obtain ⟨i, u, rfl, rfl, hi, hO, h00, hG⟩ := hrel
  have Gg := Lh hG
  have hus : u.size ≤ 200000 := by
   have h1 := congrArg List.length hO.out
   have h2 := woR_ge (l.drop i) u.data.toList (pbR l i)
   rw [← h1, HR.out, sizeL] at h2
   have := HL.out; omega
  have hui : (u.size : Int) ≤ 200000 := by omega
  clear hG HR HL hus
  by_cases hc : i < s.size
  ·have hci : (i : Int) < (s.size : Int) := by omega
   have hL : i < l.length := by rw [← Hsz.out]; exact hc
   have ex := HB.out i hc hL
   have hX := Lh (HX.out i hL)
   have hi1 : (i : Int) + 1 ≤ 9223372036854775807 := by omega
   have hi2 : -9223372036854775808 ≤ (i : Int) + 1 := by omega
   have HKi := Lh (fun w => HK.out l[i].toNat w)
   cases hb : blkB l[i].toNat with
   | true =>
    rw [hb] at HKi
    have hO2 : Hid (R.data.toList = woR u.data.toList (pbR l (i + 1)) (l.drop (i + 1))) := Lh (by rw [hO.out, woR_blk hL hb])
    generalize l[i] = x at *
    clear hb HB HX hO hL
    go_wp2_with fail
    refine (HKi.out _).mono ?_
    rintro e w2 ⟨rfl, rfl⟩
    go_wp2_with fail
    go_roundw
    case rel => exact ⟨i + 1, u, rfl, rfl, by omega, hO2, Lh (fun h => absurd h (Nat.succ_ne_zero _)), Gg.out⟩
    case measure => simp only [leftTo]; omega
   | false =>
    rw [hb] at HKi
    by_cases hu : u.data.toList = []
    ·have hO2 : Hid (R.data.toList = woR (u.data.toList ++ [l[i]]) (pbR l (i + 1)) (l.drop (i + 1))) := Lh (by rw [hO.out, woR_on hL hb (.inl hu)])
     have t1 := acc_nil hu
     have t0 : (u.toList == []) = true := by rw [ByteArray.toList_eq, hu]; rfl
     generalize l[i] = x at *
     clear hb HB HX hO hL hu
     go_wp2_with fail
     refine (HKi.out _).mono ?_
     rintro e w2 ⟨rfl, rfl⟩
     go_wp2_with fail
     go_roundw
     case rel => exact ⟨i + 1, _, rfl, rfl, by omega, Lh (by rw [ByteArray.data_append, Array.toList_append, hX.out]; exact hO2.out), Lh (fun h => absurd h (Nat.succ_ne_zero _)), Gg.out⟩
     case measure => simp only [leftTo]; omega
    ·have t1 := acc_ne hu
     have t0 : (u.toList == []) = false := by rw [ByteArray.toList_eq]; simpa using hu
     have h0 : 0 < i := Nat.pos_of_ne_zero (fun e => hu (h00.out e))
     obtain ⟨k, hk⟩ : ∃ k, i = k + 1 := ⟨i - 1, by omega⟩
     have hLk : k < l.length := by omega
     have hks : k < s.size := by omega
     have ek : (i : Int) - 1 = (k : Int) := by omega
     have ey := HB.out k hks hLk
     have hks2 : (k : Int) < (s.size : Int) := by omega
     have HKk := Lh (fun w => HK.out l[k].toNat w)
     have hpb : pbR l i = blkB l[k].toNat := by rw [hk]; exact pbR_at hLk
     have Hk := Lh hk
     cases hp : blkB l[k].toNat with
     | true =>
      rw [hp] at HKk hpb
      have hO2 : Hid (R.data.toList = woR ((u.data.toList ++ [32]) ++ [l[i]]) (pbR l (i + 1)) (l.drop (i + 1))) := Lh (by rw [hO.out, hpb, woR_sep hL hb hu])
      generalize l[i] = x at *
      generalize l[k] = y at *
      clear hb HB HX hO hL hu hk hLk h0 hp hpb
      go_wp2_with fail
      refine (HKi.out _).mono ?_
      rintro e w2 ⟨rfl, rfl⟩
      go_wp2_with fail
      refine (HKk.out _).mono ?_
      rintro e w2 ⟨rfl, rfl⟩
      go_wp2_with fail
      go_roundw
      case rel => exact ⟨i + 1, _, rfl, rfl, by omega, Lh (by rw [ByteArray.data_append, Array.toList_append, hX.out, ByteArray.data_append, Array.toList_append]; exact hO2.out), Lh (fun h => absurd h (Nat.succ_ne_zero _)), Gg.out⟩
      case measure => simp only [leftTo]; omega
     | false =>
      rw [hp] at HKk hpb
      have hO2 : Hid (R.data.toList = woR (u.data.toList ++ [l[i]]) (pbR l (i + 1)) (l.drop (i + 1))) := Lh (by rw [hO.out, woR_on hL hb (.inr hpb)])
      generalize l[i] = x at *
      generalize l[k] = y at *
      clear hb HB HX hO hL hu hk hLk h0 hp hpb
      go_wp2_with fail
      refine (HKi.out _).mono ?_
      rintro e w2 ⟨rfl, rfl⟩
      go_wp2_with fail
      refine (HKk.out _).mono ?_
      rintro e w2 ⟨rfl, rfl⟩
      go_wp2_with fail
      go_roundw
      case rel => exact ⟨i + 1, _, rfl, rfl, by omega, Lh (by rw [ByteArray.data_append, Array.toList_append, hX.out]; exact hO2.out), Lh (fun h => absurd h (Nat.succ_ne_zero _)), Gg.out⟩
      case measure => simp only [leftTo]; omega
  ·have hci : decide ((i : Int) < (s.size : Int)) = false := by simp; omega
   have hci2 : ¬ (i : Int) < (s.size : Int) := by omega
   have HE : Hid (u = R) := Lh (by
    have := hO.out
    rw [List.drop_eq_nil_of_le (by rw [← Hsz.out]; omega)] at this
    exact ba_eq (by rw [this]; simp [woR]))
   clear HB HX hc hO
   go_wp2_with fail
   go_ret
   exact ⟨by rw [HE.out]; rfl, Gg.out⟩
end Go.Proofs.YthmopindibdhnaaGreatDoor.G
