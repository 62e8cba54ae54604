/- CShelfW LWhr -/
import Derived.Shelf.Strings.Count
import Derived.Shelf.Strings.LastIndex
import Derived.Test.YthmopindibdhnaaGreatDoorProg
import Derived.Test.YthmopindibdhnaaGreatDoorM32
import Derived.Test.YthmopindibdhnaaGreatDoorM23
namespace Go.Proofs
open Go.Shelf
def Tryz.lays138_ren : Go.Shelf.Ren := ⟨fun | 138 => 29 | 195 => 46 | 218 => 47 | 143 => 48 | 219 => 68 | 217 => 87 | 225 => 88 | 224 => 89 | 267 => 90 | 266 => 109 | 314 => 110 | n => n, fun | 9 => 9 | 3 => 3 | 4 => 4 | 5 => 5 | 0 => 0 | 46 => 100 | 146 => 111 | 51 => 110 | n => n, fun | 1 => 0 | n => n⟩
theorem Tryz.lays138 : Go.Proofs.Lays.n138 Tryz.prog Tryz.lays138_ren := {
  mixed := by kernel_rfl
  f138 := Tryz.func29.trans (congrArg some (by kernel_rfl))
  f143 := Tryz.func48.trans (congrArg some (by kernel_rfl))
  f195 := Tryz.func46.trans (congrArg some (by kernel_rfl))
  f217 := Tryz.func87.trans (congrArg some (by kernel_rfl))
  f218 := Tryz.func47.trans (congrArg some (by kernel_rfl))
  f219 := Tryz.func68.trans (congrArg some (by kernel_rfl))
  f224 := Tryz.func89.trans (congrArg some (by kernel_rfl))
  f225 := Tryz.func88.trans (congrArg some (by kernel_rfl))
  f266 := Tryz.func109.trans (congrArg some (by kernel_rfl))
  f267 := Tryz.func90.trans (congrArg some (by kernel_rfl))
  f314 := Tryz.func110.trans (congrArg some (by kernel_rfl))
  t0 := Tryz.underlying0
  a0 := Tryz.isAgg0
  z0 := Tryz.sizeOf0
  v0 := Tryz.zeroValue0
  t3 := Tryz.underlying3
  a3 := Tryz.isAgg3
  z3 := Tryz.sizeOf3
  v3 := Tryz.zeroValue3
  t4 := Tryz.underlying4
  a4 := Tryz.isAgg4
  z4 := Tryz.sizeOf4
  v4 := Tryz.zeroValue4
  t5 := Tryz.underlying5
  a5 := Tryz.isAgg5
  z5 := Tryz.sizeOf5
  v5 := Tryz.zeroValue5
  t9 := Tryz.underlying9
  a9 := Tryz.isAgg9
  z9 := Tryz.sizeOf9
  v9 := Tryz.zeroValue9
  t46 := Tryz.underlying100
  a46 := Tryz.isAgg100
  z46 := Tryz.sizeOf100
  v46 := Tryz.zeroValue100
  t51 := Tryz.underlying110
  a51 := Tryz.isAgg110
  z51 := Tryz.sizeOf110
  v51 := Tryz.zeroValue110
  t146 := Tryz.underlying111
  a146 := Tryz.isAgg111
  z146 := Tryz.sizeOf111
  v146 := Tryz.zeroValue111
  g1 := by kernel_rfl }
def Tryz.lays149_ren : Go.Shelf.Ren := ⟨fun | 149 => 30 | 222 => 49 | n => n, fun | 9 => 9 | 5 => 5 | 3 => 3 | 4 => 4 | n => n, fun | n => n⟩
theorem Tryz.lays149 : Go.Proofs.Lays.n149 Tryz.prog Tryz.lays149_ren := {
  mixed := by kernel_rfl
  f149 := Tryz.func30.trans (congrArg some (by kernel_rfl))
  f222 := Tryz.func49.trans (congrArg some (by kernel_rfl))
  t3 := Tryz.underlying3
  a3 := Tryz.isAgg3
  z3 := Tryz.sizeOf3
  v3 := Tryz.zeroValue3
  t4 := Tryz.underlying4
  a4 := Tryz.isAgg4
  z4 := Tryz.sizeOf4
  v4 := Tryz.zeroValue4
  t5 := Tryz.underlying5
  a5 := Tryz.isAgg5
  z5 := Tryz.sizeOf5
  v5 := Tryz.zeroValue5
  t9 := Tryz.underlying9
  a9 := Tryz.isAgg9
  z9 := Tryz.sizeOf9
  v9 := Tryz.zeroValue9 }
end Go.Proofs
namespace Go.Proofs.YthmopindibdhnaaGreatDoor.G
open Go.RowKit Go.Shelf Go.Maps
/-- what Where gives -/
def whereV (X : Except Nat (List RTok × List Bool)) (s : ByteArray) (p : Int) : Value := match X with
  | .error n => .tuple #[.int .i64 0, .int .i64 0, .int .i64 (n : Int)]
  | .ok _ => if p < 0 ∨ (s.size : Int) < p then .tuple #[.int .i64 0, .int .i64 0, .int .i64 1] else .tuple #[.int .i64 (1 + ((s.data.toList.take p.toNat).count 10 : Nat)), .int .i64 (p - Lib.lastIdx s 10 p.toNat), .int .i64 0]
theorem where_tup (X : Except Nat (List RTok × List Bool)) (s : ByteArray) (p : Int) : ∃ a b n : Int, whereV X s p = .tuple #[.int .i64 a, .int .i64 b, .int .i64 n] := by
  unfold whereV
  split
  · exact ⟨_, _, _, rfl⟩
  · split
    · exact ⟨_, _, _, rfl⟩
    · exact ⟨_, _, _, rfl⟩
theorem last_ext (s : ByteArray) (k : Nat) (hk : k ≤ s.size) : ∀ n, n ≤ k → Lib.lastIdx (s.extract 0 k) 10 n = Lib.lastIdx s 10 n
  | 0, _ => rfl
  | n + 1, h => by
    have hb : (s.extract 0 k).data[n]! = s.data[n]! := by
      have h3 : n < s.data.size := by show n < s.size; omega
      have h4 : n < (s.extract 0 k).data.size := by
        have : (s.extract 0 k).size = k := by simp [ByteArray.size_extract]; omega
        show n < (s.extract 0 k).size
        omega
      rw [getElem!_pos (s.extract 0 k).data n h4, getElem!_pos s.data n h3]
      simp
    unfold Lib.lastIdx
    rw [hb, last_ext s k hk n (by omega)]
theorem last_range (s : ByteArray) : ∀ n : Nat, -1 ≤ Lib.lastIdx s 10 n ∧ Lib.lastIdx s 10 n < (n : Int)
  | 0 => by unfold Lib.lastIdx; omega
  | n + 1 => by
    have := last_range s n
    unfold Lib.lastIdx
    split <;> omega
set_option maxRecDepth 100000 in
set_option maxHeartbeats 2000000 in
theorem where_p (s : ByteArray) (p : Int) (hp : -9223372036854775808 ≤ p ∧ p ≤ 9223372036854775807) (w : World) (hFA : ∀ W, Gr w W → FieldsAt W) : Calls Tryz.prog 15 #[.string s, .int .i64 p] w fun e w' => e = .returned (whereV (lexO false s.data.toList) s p) ∧ Gr w w' := by
  have HF := Lib.hid (scan_all (s := s) w hFA)
  have HE := Lib.hid (fun n => lexO_err (ref := false) (l := s.data.toList) (n := n))
  have HL : Hid (∀ r, lexO false s.data.toList = .ok r → s.size ≤ 4000) := Lib.hid (fun r h => by
    unfold lexO at h
    split at h
    · cases h
    · rw [← sizeL]; omega)
  generalize lexO false s.data.toList = X at *
  clear hFA
  cases X with
  | error n =>
    have hn : ((n : Int) != 0) = true := by have := HE.out n rfl; simp; omega
    clear HE HL
    unfold whereV
    go_enter Tryz.func15, Tryz.ntmps15
    go_wp2_with fail
    refine (HF.out).mono ?_
    rintro e w3 ⟨⟨q, hq, rfl⟩, g3⟩
    have G3 := Lib.hid g3
    clear g3
    go_wp2_with fail
    refine bodyPost_ret (v := .tuple #[.int .i64 0, .int .i64 0, .int .i64 (n : Int)]) (by simp [results, Tryz.results15, go_sem]) rfl ?_
    exact ⟨rfl, G3.out⟩
  | ok r =>
    have hs := HL.out r rfl
    clear HE HL
    have hW : ∀ e (w' : World), ScanP s w (.ok r) e w' → (∃ P, e = .returned (.tuple #[.pointer (some ⟨P, 0, none⟩), .int .i64 0, .int .i64 0])) ∧ Gr w w' := by
      rintro e w' ⟨P, M, a2, e2, t2, tv, bv, ov, ops, rfl, hS3, hR3, hI3, hl3, g3⟩
      exact ⟨⟨P, rfl⟩, g3⟩
    have HF2 := Lib.hid ((HF.out).mono hW)
    clear HF hW
    by_cases h1 : p < 0
    · have hv : whereV (.ok r) s p = .tuple #[.int .i64 0, .int .i64 0, .int .i64 1] := by unfold whereV; simp only; rw [if_pos (.inl h1)]
      rw [hv]
      clear hv
      go_enter Tryz.func15, Tryz.ntmps15
      go_wp2_with fail
      refine (HF2.out).mono ?_
      rintro e w3 ⟨⟨P, rfl⟩, g3⟩
      have G3 := Lib.hid g3
      clear g3
      go_wp2_with fail
      refine bodyPost_ret (v := .tuple #[.int .i64 0, .int .i64 0, .int .i64 1]) (by simp [results, Tryz.results15, go_sem]) rfl ?_
      exact ⟨rfl, G3.out⟩
    · by_cases h2 : p > (s.size : Int)
      · have hv : whereV (.ok r) s p = .tuple #[.int .i64 0, .int .i64 0, .int .i64 1] := by unfold whereV; simp only; rw [if_pos (.inr h2)]
        rw [hv]
        have h1b : decide (p < 0) = false := decide_eq_false h1
        clear hv
        go_enter Tryz.func15, Tryz.ntmps15
        go_wp2_with fail
        refine (HF2.out).mono ?_
        rintro e w3 ⟨⟨P, rfl⟩, g3⟩
        have G3 := Lib.hid g3
        clear g3
        go_wp2_with fail
        refine bodyPost_ret (v := .tuple #[.int .i64 0, .int .i64 0, .int .i64 1]) (by simp [results, Tryz.results15, go_sem]) rfl ?_
        exact ⟨rfl, G3.out⟩
      · obtain ⟨k, rfl⟩ : ∃ k : Nat, p = (k : Int) := ⟨p.toNat, by omega⟩
        obtain ⟨cn, hcn⟩ : ∃ cn, cn = (s.data.toList.take k).count 10 := ⟨_, rfl⟩
        obtain ⟨li, hli⟩ : ∃ li, li = Lib.lastIdx s 10 k := ⟨_, rfl⟩
        have hcl : cn ≤ k := by
          rw [hcn]
          have := List.count_le_length (a := (10 : UInt8)) (l := s.data.toList.take k)
          rw [List.length_take] at this
          omega
        have hlr := last_range s k
        rw [← hli] at hlr
        have hv : whereV (.ok r) s (k : Int) = .tuple #[.int .i64 (1 + (cn : Int)), .int .i64 ((k : Int) - li), .int .i64 0] := by
          unfold whereV
          simp only
          rw [if_neg (by omega), Int.toNat_natCast, ← hcn, ← hli]
        rw [hv]
        have hks : k ≤ s.size := by omega
        have HC := Lib.hid (fun w => Any.strings_Count_one Tryz.lays138 (s.extract 0 k) 10 w)
        have hce : Lib.countByte (s.extract 0 k).data.toList 10 = cn := by unfold Lib.countByte; rw [takeB, hcn]
        rw [hce] at HC
        have HLI := Lib.hid (fun w => Any.strings_LastIndexByte Tryz.lays149 (s.extract 0 k) 10 (by simp [ByteArray.size_extract]; omega) w)
        have hle : Lib.lastIndexByte (s.extract 0 k) 10 = li := by
          unfold Lib.lastIndexByte
          rw [show (s.extract 0 k).size = k by simp [ByteArray.size_extract]; omega, last_ext s k hks k (Nat.le_refl _), hli]
        rw [hle] at HLI
        have q0 : ¬ (k : Int) < 0 := h1
        have q1 : decide ((k : Int) < 0) = false := decide_eq_false q0
        have q2 : decide ((s.size : Int) < (k : Int)) = false := decide_eq_false (by omega)
        have q3 : decide (s.size < k) = false := decide_eq_false (by omega)
        have q4 : (k : Int) ≤ (s.size : Int) := by omega
        obtain ⟨A, hA⟩ : ∃ A : Int, A = 1 + (cn : Int) := ⟨_, rfl⟩
        obtain ⟨B, hB⟩ : ∃ B : Int, B = (k : Int) - li := ⟨_, rfl⟩
        have hA2 : IntKind.i64.wrap A = A := by rw [IntKind.wrap_i64] <;> omega
        have hB2 : IntKind.i64.wrap B = B := by rw [IntKind.wrap_i64] <;> omega
        have hA3 : (1 : Int) + (cn : Int) = A := hA.symm
        have hB3 : (k : Int) - li = B := hB.symm
        rw [hA3, hB3]
        have hA4 : -9223372036854775808 ≤ A ∧ A ≤ 9223372036854775807 := by omega
        have hB4 : -9223372036854775808 ≤ B ∧ B ≤ 9223372036854775807 := by omega
        obtain ⟨hA5, hA6⟩ := hA4
        obtain ⟨hB5, hB6⟩ := hB4
        clear hv hcn hli hcl hlr hce hle hA hB h1 h2 hp hks hs
        go_enter Tryz.func15, Tryz.ntmps15
        go_wp2_with fail
        refine (HF2.out).mono ?_
        rintro e w3 ⟨⟨P, rfl⟩, g3⟩
        have G3 := Lib.hid g3
        clear g3
        go_wp2_with fail
        refine (HC.out _).mono ?_
        rintro e w4 ⟨rfl, rfl⟩
        go_wp2_with fail
        refine (HLI.out _).mono ?_
        rintro e w5 ⟨rfl, rfl⟩
        go_wp2_with fail
        refine bodyPost_ret (v := .tuple #[.int .i64 A, .int .i64 B, .int .i64 0]) (by simp [results, Tryz.results15, go_sem]) rfl ?_
        exact ⟨rfl, G3.out⟩
set_option maxRecDepth 100000 in
set_option maxHeartbeats 2000000 in
theorem where_r (s : ByteArray) (p : Int) (hp : -9223372036854775808 ≤ p ∧ p ≤ 9223372036854775807) (w : World) : Calls Tryz.prog 14 #[.string s, .int .i64 p] w fun e w' => e = .returned (whereV (lexO true s.data.toList) s p) ∧ Gr w w' := by
  have HF := Lib.hid (lex_r s w)
  have HE := Lib.hid (fun n => lexO_err (ref := true) (l := s.data.toList) (n := n))
  have HL : Hid (∀ r, lexO true s.data.toList = .ok r → s.size ≤ 4000) := Lib.hid (fun r h => by
    unfold lexO at h
    split at h
    · cases h
    · rw [← sizeL]; omega)
  generalize lexO true s.data.toList = X at *
  cases X with
  | error n =>
    have hn : ((n : Int) != 0) = true := by have := HE.out n rfl; simp; omega
    clear HE HL
    unfold whereV
    go_enter Tryz.func14, Tryz.ntmps14
    go_wp2_with fail
    refine (HF.out).mono ?_
    rintro e w3 ⟨⟨q, rfl⟩, g3⟩
    have G3 := Lib.hid g3
    clear g3
    go_wp2_with fail
    refine bodyPost_ret (v := .tuple #[.int .i64 0, .int .i64 0, .int .i64 (n : Int)]) (by simp [results, Tryz.results14, go_sem]) rfl ?_
    exact ⟨rfl, G3.out⟩
  | ok r =>
    have hs := HL.out r rfl
    clear HE HL
    have hW : ∀ e (w' : World), LexR w (.ok r) e w' → (∃ tv n, e = .returned (.tuple #[tv, .int .i64 n, .int .i64 0])) ∧ Gr w w' := by
      rintro e w' ⟨tv, rfl, _, _, g3⟩
      exact ⟨⟨tv, _, rfl⟩, g3⟩
    have HF2 := Lib.hid ((HF.out).mono hW)
    clear HF hW
    by_cases h1 : p < 0
    · have hv : whereV (.ok r) s p = .tuple #[.int .i64 0, .int .i64 0, .int .i64 1] := by unfold whereV; simp only; rw [if_pos (.inl h1)]
      rw [hv]
      clear hv
      go_enter Tryz.func14, Tryz.ntmps14
      go_wp2_with fail
      refine (HF2.out).mono ?_
      rintro e w3 ⟨⟨tv, n, rfl⟩, g3⟩
      have G3 := Lib.hid g3
      clear g3
      go_wp2_with fail
      refine bodyPost_ret (v := .tuple #[.int .i64 0, .int .i64 0, .int .i64 1]) (by simp [results, Tryz.results14, go_sem]) rfl ?_
      exact ⟨rfl, G3.out⟩
    · by_cases h2 : p > (s.size : Int)
      · have hv : whereV (.ok r) s p = .tuple #[.int .i64 0, .int .i64 0, .int .i64 1] := by unfold whereV; simp only; rw [if_pos (.inr h2)]
        rw [hv]
        have h1b : decide (p < 0) = false := decide_eq_false h1
        clear hv
        go_enter Tryz.func14, Tryz.ntmps14
        go_wp2_with fail
        refine (HF2.out).mono ?_
        rintro e w3 ⟨⟨tv, n, rfl⟩, g3⟩
        have G3 := Lib.hid g3
        clear g3
        go_wp2_with fail
        refine bodyPost_ret (v := .tuple #[.int .i64 0, .int .i64 0, .int .i64 1]) (by simp [results, Tryz.results14, go_sem]) rfl ?_
        exact ⟨rfl, G3.out⟩
      · obtain ⟨k, rfl⟩ : ∃ k : Nat, p = (k : Int) := ⟨p.toNat, by omega⟩
        have hv : whereV (.ok r) s (k : Int) = .tuple #[.int .i64 (1 + ((s.data.toList.take k).count 10 : Nat)), .int .i64 ((k : Int) - Lib.lastIdx s 10 k), .int .i64 0] := by
          unfold whereV
          simp only
          rw [if_neg (by omega), Int.toNat_natCast]
        rw [hv]
        have Hks : Hid (k ≤ s.size) := Lib.hid (by omega)
        have Hs := Lib.hid hs
        have q0 : ¬ (k : Int) < 0 := h1
        have q1 : decide ((k : Int) < 0) = false := decide_eq_false q0
        have q2 : decide ((s.size : Int) < (k : Int)) = false := decide_eq_false (by omega)
        have q3 : decide (s.size < k) = false := decide_eq_false (by omega)
        have HB := Lib.hid (fun n (h : n < s.size) (h' : n < s.data.toList.length) => byteE s n h h')
        obtain ⟨VV, hVV⟩ : ∃ V, V = Value.tuple #[.int .i64 (1 + ((s.data.toList.take k).count 10 : Nat)), .int .i64 ((k : Int) - Lib.lastIdx s 10 k), .int .i64 0] := ⟨_, rfl⟩
        rw [← hVV]
        have HV := Lib.hid hVV
        clear hv h1 h2 hp hs hVV
        go_enter Tryz.func14, Tryz.ntmps14
        go_wp2_with fail
        refine (HF2.out).mono ?_
        rintro e w3 ⟨⟨tv, n, rfl⟩, g3⟩
        have G3 := Lib.hid g3
        clear g3
        go_wp2_with fail
        go_loopw [10, 11, 12] (fun lv cv iv wr => ∃ (i : Nat) (L C : Int), lv = .int .i64 L ∧ cv = .int .i64 C ∧ iv = .int .i64 (i : Int) ∧ i ≤ k ∧ Hid (L = 1 + ((s.data.toList.take i).count 10 : Nat)) ∧ Hid (C = (i : Int) - Lib.lastIdx s 10 i) ∧ w3 = wr) (fun _ _ iv _ => leftTo k iv)
        case atStart => exact ⟨0, 1, 1, rfl, rfl, rfl, Nat.zero_le _, Lib.hid (by simp), Lib.hid (by unfold Lib.lastIdx; rfl), rfl⟩
        case round =>
          obtain ⟨i, L, C, rfl, rfl, rfl, hi, hL, hC, rfl⟩ := hrel
          by_cases hc : i < k
          · have hci : (i : Int) < (k : Int) := by omega
            have his : i < s.size := by have := Hks.out; omega
            have hiS : (i : Int) < (s.size : Int) := by omega
            have hiL : i < s.data.toList.length := by rw [sizeL]; exact his
            have ex := HB.out i his hiL
            have hlr := last_range s i
            have hcl : (s.data.toList.take i).count 10 ≤ i := by
              have := List.count_le_length (a := (10 : UInt8)) (l := s.data.toList.take i)
              rw [List.length_take] at this
              omega
            have hs4 := Hs.out
            have l1 : 1 ≤ L ∧ L ≤ 5000 := by rw [hL.out]; omega
            have c1 : 0 ≤ C ∧ C ≤ 5000 := by rw [hC.out]; omega
            obtain ⟨l1, l2⟩ := l1
            obtain ⟨c1, c2⟩ := c1
            have l3 : L + 1 ≤ 9223372036854775807 := by omega
            have l4 : -9223372036854775808 ≤ L + 1 := by omega
            have c3 : C + 1 ≤ 9223372036854775807 := by omega
            have c4 : -9223372036854775808 ≤ C + 1 := by omega
            have i1 : (i : Int) + 1 ≤ 9223372036854775807 := by omega
            have i2 : -9223372036854775808 ≤ (i : Int) + 1 := by omega
            have htk : s.data.toList.take (i + 1) = s.data.toList.take i ++ [s.data.toList[i]] := List.take_succ_eq_append_getElem hiL
            have hgb : s.data[i]! = s.data.toList[i] := by rw [getElem!_pos s.data i (show i < s.data.size from his)]; simp
            by_cases h10 : s.data.toList[i] = 10
            · have HL2 : Hid (L + 1 = 1 + ((s.data.toList.take (i + 1)).count 10 : Nat)) := Lib.hid (by rw [hL.out, htk, List.count_append, h10]; simp; omega)
              have HC2 : Hid ((1 : Int) = ((i + 1 : Nat) : Int) - Lib.lastIdx s 10 (i + 1)) := Lib.hid (by rw [Lib.lastIdx_hit s 10 i (by rw [hgb, h10]; rfl)]; omega)
              have t1 : ((s.data.toList[i].toNat : Int) == 10) = true := by rw [h10]; rfl
              have Hc := Lib.hid hc
              clear hc h10 hgb htk hL hC hcl hlr HB his
              generalize s.data.toList[i] = y at *
              go_wp2_with fail
              go_roundw
              case rel => exact ⟨i + 1, L + 1, 1, rfl, rfl, rfl, Hc.out, HL2, HC2, by first | rfl | trivial⟩
              case measure => simp [leftTo]; have := Hc.out; omega
            · have HL2 : Hid (L = 1 + ((s.data.toList.take (i + 1)).count 10 : Nat)) := Lib.hid (by rw [hL.out, htk, List.count_append, List.count_eq_zero_of_not_mem (show (10 : UInt8) ∉ [s.data.toList[i]] by rw [List.mem_singleton]; exact fun e => h10 e.symm), Nat.add_zero])
              have HC2 : Hid (C + 1 = ((i + 1 : Nat) : Int) - Lib.lastIdx s 10 (i + 1)) := Lib.hid (by
                rw [Lib.lastIdx_miss s 10 i (by
                  rw [hgb]
                  intro e
                  exact h10 (UInt8.toNat_inj.1 (by have : s.data.toList[i].toNat = 10 := by omega
                                                   rw [this]; rfl))), hC.out]; omega)
              have t1 : ((s.data.toList[i].toNat : Int) == 10) = false := u8_neq (y := 10) h10
              have Hc := Lib.hid hc
              clear hc h10 hgb htk hL hC hcl hlr HB his
              generalize s.data.toList[i] = y at *
              go_wp2_with fail
              go_roundw
              case rel => exact ⟨i + 1, L, C + 1, rfl, rfl, rfl, Hc.out, HL2, HC2, by first | rfl | trivial⟩
              case measure => simp [leftTo]; have := Hc.out; omega
          · have hci : decide ((i : Int) < (k : Int)) = false := by simp; omega
            have hci2 : ¬ (i : Int) < (k : Int) := by omega
            have hci3 : decide (i < k) = false := decide_eq_false hc
            have hik : i = k := by omega
            have HVe : Hid (VV = .tuple #[.int .i64 L, .int .i64 C, .int .i64 0]) := Lib.hid (by rw [HV.out, hL.out, hC.out, hik])
            clear hL hC HB hc hik
            go_wp2_with fail
            refine bodyPost_ret (v := .tuple #[.int .i64 L, .int .i64 C, .int .i64 0]) (by simp [results, Tryz.results14, go_sem]) rfl ?_
            exact ⟨by rw [HVe.out], G3.out⟩
set_option maxRecDepth 100000 in
set_option maxHeartbeats 2000000 in
theorem law_places (s : ByteArray) (p : Int) (_ : s.size ≤ 140737488351232) (hp : -9223372036854775808 ≤ p ∧ p ≤ 9223372036854775807) (w : World) (hFA : ∀ W, Gr w W → FieldsAt W) : Calls Tryz.prog 5 #[.string s, .int .i64 p] w fun e w' => e = .returned (.bool true) ∧ Gr w w' := by
  have HO := Lib.hid (fun w => over_l s w)
  have HK := Lib.hid (fun w => known_l w)
  have HR := Lib.hid (fun w => where_r s p hp w)
  have HP := Lib.hid (fun W (gW : Gr w W) => where_p s p hp W (fun W2 g => hFA W2 (gW.trans g)))
  rw [lexO_two] at HR
  obtain ⟨a, b, n, hv⟩ := where_tup (lexO false s.data.toList) s p
  rw [hv] at HR HP
  clear hv hFA hp
  by_cases ho : 16000 < (s.size : Int)
  · have ho' : decide (16000 < (s.size : Int)) = true := by simpa using ho
    rw [ho'] at HO
    clear ho ho' HP HR
    go_enter Tryz.func5, Tryz.ntmps5
    go_wp2_with fail
    refine (HO.out _).mono ?_
    rintro e w1 ⟨rfl, rfl⟩
    go_wp2_with fail
    refine (HK.out _).mono ?_
    rintro e w2 ⟨rfl, g⟩
    go_wp2
    go_ret
    exact ⟨rfl, g⟩
  · have ho' : decide (16000 < (s.size : Int)) = false := by simpa using ho
    rw [ho'] at HO
    have ea : (a == a) = true := by simp
    have eb : (b == b) = true := by simp
    have en : (n == n) = true := by simp
    clear ho ho'
    go_enter Tryz.func5, Tryz.ntmps5
    go_wp2_with fail
    refine (HO.out _).mono ?_
    rintro e w1 ⟨rfl, rfl⟩
    go_wp2_with fail
    refine (HR.out _).mono ?_
    rintro e w2 ⟨rfl, g2⟩
    have G2 := Lib.hid g2
    clear g2
    go_wp2_with fail
    refine (HP.out _ G2.out).mono ?_
    rintro e w3 ⟨rfl, g3⟩
    have G3 := Lib.hid (G2.out.trans g3)
    clear g3
    go_wp2_with (go_at_call 8; refine (HK.out _).mono ?_; rintro e4 w4 ⟨rfl, g4⟩; have G4 := Lib.hid (G3.out.trans g4); clear g4)
    go_ret
    exact ⟨rfl, G4.out⟩
end Go.Proofs.YthmopindibdhnaaGreatDoor.G
