/- The program's forms of one character. -/
import Derived.Test.YtcaoknlgbocgpaaGreatDoorCPts
import Derived.Test.YtcaoknlgbocgpaaGreatDoorCForm
namespace Go.Proofs.YtcaoknlgbocgpaaGreatDoor
open Go.RowKit Go.Shelf
theorem encode_one {c : Int} (h : isCh c = true) : Utf8.encode c = ⟨(oneL c).toArray⟩ := by
  have hb := isCh_true.1 h
  have hv : Utf8.valid c = true := by simp [Utf8.valid]; omega
  obtain ⟨u, rfl⟩ : ∃ u : Nat, c = (u : Int) := ⟨c.toNat, by omega⟩
  unfold Utf8.encode
  rw [hv]
  simp only [if_true, Int.toNat_natCast]
  have e1 : ∀ n : Nat, by8 (n : Int) = UInt8.ofNat n := fun n => by unfold by8; rw [Int.toNat_natCast]
  by_cases h1 : u < 128
  · rw [if_pos h1, one1 (by omega), e1]
  rw [if_neg h1]
  by_cases h2 : u < 2048
  · rw [if_pos h2, one2 (by omega) (by omega)]
    rw [show (192 : Int) + (u : Int) / 64 = ((192 + u / 64 : Nat) : Int) by omega, show (128 : Int) + (u : Int) % 64 = ((128 + u % 64 : Nat) : Int) by omega, e1, e1]
  rw [if_neg h2]
  by_cases h3 : u < 65536
  · rw [if_pos h3, one3 (by omega) (by omega) (by omega)]
    rw [show (224 : Int) + (u : Int) / 4096 = ((224 + u / 4096 : Nat) : Int) by omega, show (128 : Int) + (u : Int) / 64 % 64 = ((128 + u / 64 % 64 : Nat) : Int) by omega, show (128 : Int) + (u : Int) % 64 = ((128 + u % 64 : Nat) : Int) by omega, e1, e1, e1]
  · rw [if_neg h3, one4 (by omega) (by omega) (by omega)]
    rw [show (240 : Int) + (u : Int) / 262144 = ((240 + u / 262144 : Nat) : Int) by omega, show (128 : Int) + (u : Int) / 4096 % 64 = ((128 + u / 4096 % 64 : Nat) : Int) by omega, show (128 : Int) + (u : Int) / 64 % 64 = ((128 + u / 64 % 64 : Nat) : Int) by omega,
      show (128 : Int) + (u : Int) % 64 = ((128 + u % 64 : Nat) : Int) by omega, e1, e1, e1, e1]
set_option maxRecDepth 100000 in
set_option maxHeartbeats 4000000 in
theorem small_p (c : Int) (h0 : 0 ≤ c) (h1 : c ≤ 1114111) (w : World) : Calls Tryz.prog 47 #[.int .i32 c] w fun e w' => e = .returned (.int .i32 (smallC c)) ∧ w = w' := by
  rcases smallC_cases c with ⟨h, e⟩ | ⟨rfl, e⟩ | ⟨rfl, e⟩ | ⟨rfl, e⟩ | ⟨h, n1, n2, n3, e⟩
  · have hu := upA_true.1 h
    have E := Lib.hid e
    clear e h
    rcases hu with hu | ⟨hu1, hu2, hu3⟩ | ⟨hu1, hu2, hu3⟩ | hu
    all_goals
      go_enter Tryz.func47, Tryz.ntmps47
      go_wp2
      go_ret
      exact ⟨by rw [E.out]; rfl, rfl⟩
  · have E := Lib.hid e
    clear e
    go_enter Tryz.func47, Tryz.ntmps47
    go_wp2
    go_ret
    exact ⟨by rw [E.out]; rfl, rfl⟩
  · have E := Lib.hid e
    clear e
    go_enter Tryz.func47, Tryz.ntmps47
    go_wp2
    go_ret
    exact ⟨by rw [E.out]; rfl, rfl⟩
  · have E := Lib.hid e
    clear e
    go_enter Tryz.func47, Tryz.ntmps47
    go_wp2
    go_ret
    exact ⟨by rw [E.out]; rfl, rfl⟩
  · have hu := upA_false.1 h
    have E := Lib.hid e
    have b1 : ¬ ((65 : Int) ≤ c ∧ c ≤ 90) := by omega
    have b2 : ¬ ((192 : Int) ≤ c ∧ c ≤ 222 ∧ c ≠ 215) := by omega
    have b3 : ¬ ((913 : Int) ≤ c ∧ c ≤ 937 ∧ c ≠ 930) := by omega
    have b4 : ¬ ((1040 : Int) ≤ c ∧ c ≤ 1071) := by omega
    have m1 : (c == 7838) = false := beq_eq_false_iff_ne.2 n1
    have m2 : (c == 8490) = false := beq_eq_false_iff_ne.2 n2
    have m3 : (c == 8491) = false := beq_eq_false_iff_ne.2 n3
    clear e h hu
    go_enter Tryz.func47, Tryz.ntmps47
    go_wp2
    all_goals first
      | (exfalso; simp_all; omega)
      | (go_ret; exact ⟨by rw [E.out]; rfl, rfl⟩)
def ligL (c : Int) : List UInt8 × Bool := if c = 64256 then ([102, 102], true) else if c = 64257 then ([102, 105], true) else if c = 64258 then ([102, 108], true) else if c = 64259 then ([102, 102, 105], true)
  else if c = 64260 then ([102, 102, 108], true) else if c = 64261 then ([115, 116], true) else if c = 64262 then ([115, 116], true) else ([], false)
def ligS (c : Int) : Prop := c = 64256 ∨ c = 64257 ∨ c = 64258 ∨ c = 64259 ∨ c = 64260 ∨ c = 64261 ∨ c = 64262
theorem ligL_no {c : Int} (h : ¬ ligS c) : ligL c = ([], false) := by
  unfold ligS at h
  unfold ligL
  rw [if_neg (by omega), if_neg (by omega), if_neg (by omega), if_neg (by omega), if_neg (by omega), if_neg (by omega), if_neg (by omega)]
set_option maxRecDepth 100000 in
theorem ligature_p (c : Int) (w : World) : Calls Tryz.prog 69 #[.int .i32 c] w fun e w' => e = .returned (.tuple #[.string ⟨(ligL c).1.toArray⟩, .bool (ligL c).2]) ∧ w = w' := by
  by_cases h : ligS c
  · rcases h with rfl | rfl | rfl | rfl | rfl | rfl | rfl
    all_goals
      go_enter Tryz.func69, Tryz.ntmps69
      go_wp2
      go_ret2
      exact ⟨rfl, rfl⟩
  · have E := Lib.hid (ligL_no h)
    unfold ligS at h
    have m1 : (c == 64256) = false := beq_eq_false_iff_ne.2 (by omega)
    have m2 : (c == 64257) = false := beq_eq_false_iff_ne.2 (by omega)
    have m3 : (c == 64258) = false := beq_eq_false_iff_ne.2 (by omega)
    have m4 : (c == 64259) = false := beq_eq_false_iff_ne.2 (by omega)
    have m5 : (c == 64260) = false := beq_eq_false_iff_ne.2 (by omega)
    have m6 : (c == 64261) = false := beq_eq_false_iff_ne.2 (by omega)
    have m7 : (c == 64262) = false := beq_eq_false_iff_ne.2 (by omega)
    clear h
    go_enter Tryz.func69, Tryz.ntmps69
    go_wp2
    go_ret2
    exact ⟨by rw [E.out]; rfl, rfl⟩
theorem one_ascii (c : Int) : writeL [c] = oneL c := by rw [writeL_cons]; simp [writeL]
set_option maxRecDepth 100000 in
set_option maxHeartbeats 4000000 in
theorem fold_p (c : Int) (hc : isCh c = true) (w : World) : Calls Tryz.prog 41 #[.int .i32 c] w fun e w' => e = .returned (.string ⟨(writeL (foldC c)).toArray⟩) ∧ w = w' := by
  have hb := isCh_true.1 hc
  have HL := Lib.hid (fun w => ligature_p c w)
  by_cases h : foldS c
  · clear hb hc
    rcases h with rfl | rfl | rfl | rfl | rfl | rfl | rfl | rfl | rfl | rfl | rfl | rfl | rfl
    all_goals
      go_enter Tryz.func41, Tryz.ntmps41
      go_wp2_with (go_at_call 69; refine (HL.out _).mono ?_; rintro e w3 ⟨rfl, rfl⟩)
      go_ret
      exact ⟨rfl, rfl⟩
  · have E := Lib.hid (show writeL (foldC c) = oneL (smallC c) by rw [foldC_else h, one_ascii])
    have H := Lib.hid (fun w => small_p c (by omega) (by omega) w)
    have He := Lib.hid (encode_one (small_ch hc))
    unfold foldS at h
    have hl := ligL_no (c := c) (by unfold ligS; omega)
    rw [hl] at HL
    have m1 : (c == 181) = false := beq_eq_false_iff_ne.2 (by omega)
    have m2 : (c == 223) = false := beq_eq_false_iff_ne.2 (by omega)
    have m3 : (c == 7838) = false := beq_eq_false_iff_ne.2 (by omega)
    have m4 : (c == 329) = false := beq_eq_false_iff_ne.2 (by omega)
    have m5 : (c == 383) = false := beq_eq_false_iff_ne.2 (by omega)
    have m6 : (c == 962) = false := beq_eq_false_iff_ne.2 (by omega)
    clear h hl
    generalize smallC c = d at *
    go_enter Tryz.func41, Tryz.ntmps41
    go_wp2_with (first | (go_at_call 69; refine (HL.out _).mono ?_; rintro e w3 ⟨rfl, rfl⟩) | (go_at_call 47; refine (H.out _).mono ?_; rintro e w3 ⟨rfl, rfl⟩))
    go_ret
    exact ⟨by rw [E.out, ← He.out]; rfl, rfl⟩
theorem extra158 : Builder.Extra Tryz.prog Tryz.lays158_ren where
  sizeBuilder := by kernel_rfl
  liesBuilder := by kernel_rfl
  t5 := Tryz.underlying5
  a5 := Tryz.isAgg5
  z5 := Tryz.sizeOf5
  v5 := Tryz.zeroValue5
  infoByte := by kernel_rfl
  cellsByte := by kernel_rfl
  sizeByte := by kernel_rfl
  neB5 := by decide
theorem upper_any (s : ByteArray) (hs : s.size ≤ 4096) (ha : s.data.toList.all (fun b => decide (b.toNat < 128)) = true) (w : World) : Calls Tryz.prog 70 #[.string s] w fun e w' => e = .returned (.string ⟨(Lib.toUpperA s.data.toList).toArray⟩) ∧ Gr w w' :=
  Any.strings_ToUpper_ascii Tryz.lays158 extra158 s w (by omega) (fun j b h => by simpa using List.all_eq_true.1 ha b (List.mem_of_getElem? h))
set_option maxRecDepth 100000 in
set_option maxHeartbeats 8000000 in
theorem capital_p (c : Int) (hc : isCh c = true) (w : World) : Calls Tryz.prog 43 #[.int .i32 c] w fun e w' => e = .returned (.string ⟨(writeL (capC c)).toArray⟩) ∧ Gr w w' := by
  have hb := isCh_true.1 hc
  have HL := Lib.hid (fun w => ligature_p c w)
  by_cases h : capS c
  · clear hb hc
    have HU := Lib.hid (fun s hs ha w => upper_any s hs ha w)
    rcases h with rfl | rfl | rfl | rfl | rfl | rfl | rfl | rfl | rfl | rfl | rfl
    all_goals
      go_enter Tryz.func43, Tryz.ntmps43
      go_wp2_with (first | (go_at_call 69; refine (HL.out _).mono ?_; rintro e w3 ⟨rfl, rfl⟩) | (go_at_call 70; refine (HU.out _ (by decide) (by decide) _).mono ?_; rintro e w3 ⟨rfl, g3⟩))
      go_ret
      first | exact ⟨rfl, Gr.refl w⟩ | exact ⟨rfl, g3⟩
  · have E0 := capC_else h
    unfold capS at h
    have hl := ligL_no (c := c) (by unfold ligS; omega)
    rw [hl] at HL
    cases hr : capR c
    · have E := Lib.hid (show writeL (capC c) = oneL c by rw [E0, hr]; exact one_ascii c)
      have He := Lib.hid (encode_one hc)
      have hu : ¬ ((97 ≤ c ∧ c ≤ 122) ∨ (224 ≤ c ∧ c ≤ 254 ∧ c ≠ 247) ∨ (945 ≤ c ∧ c ≤ 969) ∨ (1072 ≤ c ∧ c ≤ 1103)) := by rw [← capR_true, hr]; decide
      have b1 : ¬ ((97 : Int) ≤ c ∧ c ≤ 122) := by omega
      have b2 : ¬ ((224 : Int) ≤ c ∧ c ≤ 254 ∧ c ≠ 247) := by omega
      have b3 : ¬ ((945 : Int) ≤ c ∧ c ≤ 969) := by omega
      have b4 : ¬ ((1072 : Int) ≤ c ∧ c ≤ 1103) := by omega
      have m2 : (c == 223) = false := beq_eq_false_iff_ne.2 (by omega)
      have m4 : (c == 329) = false := beq_eq_false_iff_ne.2 (by omega)
      have m5 : (c == 383) = false := beq_eq_false_iff_ne.2 (by omega)
      have m6 : (c == 962) = false := beq_eq_false_iff_ne.2 (by omega)
      clear h hl hr E0 hu
      go_enter Tryz.func43, Tryz.ntmps43
      go_wp2_with (go_at_call 69; refine (HL.out _).mono ?_; rintro e w3 ⟨rfl, rfl⟩)
      all_goals first
        | (exfalso; simp_all; omega)
        | (go_ret; exact ⟨by rw [E.out, ← He.out]; rfl, Gr.refl w⟩)
    · have hu := capR_true.1 hr
      have hd : isCh (c - 32) = true := isCh_true.2 (by omega)
      have E := Lib.hid (show writeL (capC c) = oneL (c - 32) by rw [E0, hr]; exact one_ascii _)
      have He := Lib.hid (encode_one hd)
      clear hl hr E0 hd
      rcases hu with hu | ⟨hu1, hu2, hu3⟩ | ⟨hu1, hu2⟩ | hu
      all_goals
        go_enter Tryz.func43, Tryz.ntmps43
        go_wp2
        all_goals first
          | (exfalso; simp_all; omega)
          | (go_ret; exact ⟨by rw [E.out, ← He.out]; rfl, Gr.refl w⟩)
end Go.Proofs.YtcaoknlgbocgpaaGreatDoor
