/- The reference's Unescape. -/
import Derived.Test.YtcaoknlgbocgpaaGreatDoorCREsc
import Derived.Lib.FrozenHead2
namespace Go.Proofs.YtcaoknlgbocgpaaGreatDoor
open Go.RowKit Go.Shelf
set_option maxRecDepth 100000 in
theorem digit_r (c : UInt8) (w : World) : Calls Tryz.prog 52 #[.int .u8 (c.toNat : Int)] w fun e w' => e = .returned (.int .i64 (hexV (c.toNat : Int))) ∧ w = w' := by
  have hb := c.toNat_lt
  have h0 : (0 : Int) ≤ (c.toNat : Int) := by omega
  have h1 : (c.toNat : Int) ≤ 255 := by omega
  clear hb
  generalize (c.toNat : Int) = z at *
  by_cases h1 : 48 ≤ z ∧ z ≤ 57
  · have HE : Hid (hexV z = z - 48) := Lib.hid (if_pos h1)
    go_enter Tryz.func52, Tryz.ntmps52
    go_wp2
    go_ret
    exact ⟨by rw [HE.out]; rfl, rfl⟩
  by_cases h2 : 97 ≤ z ∧ z ≤ 102
  · have HE : Hid (hexV z = z - 97 + 10) := Lib.hid (by unfold hexV; rw [if_neg h1, if_pos h2]; omega)
    go_enter Tryz.func52, Tryz.ntmps52
    go_wp2
    all_goals (go_ret; exact ⟨by rw [HE.out]; rfl, rfl⟩)
  by_cases h3 : 65 ≤ z ∧ z ≤ 70
  · have HE : Hid (hexV z = z - 65 + 10) := Lib.hid (by unfold hexV; rw [if_neg h1, if_neg h2, if_pos h3]; omega)
    go_enter Tryz.func52, Tryz.ntmps52
    go_wp2
    all_goals (go_ret; exact ⟨by rw [HE.out]; rfl, rfl⟩)
  · have HE : Hid (hexV z = -1) := Lib.hid (by unfold hexV; rw [if_neg h1, if_neg h2, if_neg h3])
    go_enter Tryz.func52, Tryz.ntmps52
    go_wp2
    all_goals (go_ret; exact ⟨by rw [HE.out]; rfl, rfl⟩)
/-- what is known of the digits so far: at place i the number is z -/
def BrI (l : List UInt8) (i : Nat) (z : Int) : Prop := ∃ k, i = k + 2 ∧ k ≤ 6 ∧ k ≤ (l.drop 2).length ∧ ((l.drop 2).take k).all hexB = true ∧ z = valF 0 ((l.drop 2).take k)
theorem BrI.bound {l : List UInt8} {i : Nat} {z : Int} (h : BrI l i z) : 2 ≤ i ∧ i ≤ 8 ∧ 0 ≤ z ∧ z ≤ 16777215 := by
  obtain ⟨k, rfl, h2, h3, h4, rfl⟩ := h
  obtain ⟨b1, b2⟩ := valF_bound _ h4 0 (by decide)
  refine ⟨by omega, by omega, b1, ?_⟩
  have hl : ((l.drop 2).take k).length ≤ 6 := Nat.le_trans (List.length_take_le _ _) h2
  have : (16 : Int) ^ ((l.drop 2).take k).length ≤ 16 ^ 6 := by
    have : (16 : Nat) ^ ((l.drop 2).take k).length ≤ 16 ^ 6 := Nat.pow_le_pow_right (by decide) hl
    exact_mod_cast this
  have e : (16 : Int) ^ 6 = 16777216 := by decide
  rw [e] at this
  omega
theorem BrI.step {s : ByteArray} {i : Nat} {z : Int} (h : BrI s.data.toList i z) (hi : i < s.size) (h8 : i < 8) (hx : 0 ≤ hexV (s[i].toNat : Int)) : BrI s.data.toList (i + 1) (z * 16 + hexV (s[i].toNat : Int)) := by
  obtain ⟨k, rfl, h2, h3, h4, rfl⟩ := h
  have hd : (s.data.toList.drop 2)[k]? = some s[k + 2] := by
    rw [List.getElem?_drop, Nat.add_comm 2 k]; exact getL s (k + 2) hi
  have e : (s.data.toList.drop 2).take (k + 1) = (s.data.toList.drop 2).take k ++ [s[k + 2]] := by rw [List.take_add_one, hd]; rfl
  refine ⟨k + 1, by omega, by omega, ?_, ?_, ?_⟩
  · rw [List.length_drop, sizeL]; omega
  · rw [e, List.all_append, h4]; simp [hexB]; omega
  · rw [e, valF_snoc]
/-- where the digits end -/
theorem BrI.fin {s : ByteArray} {i : Nat} {z : Int} (h : BrI s.data.toList i z) (hp : s.data.toList.take 2 = [120, 123]) (he : i = 8 ∨ (s.size ≤ i) ∨ ∃ hi : i < s.size, hexV (s[i].toNat : Int) < 0) :
    braced s.data.toList = if (¬ i = 2 ∧ (s.data.toList.drop i).head? = some 125) ∧ isCh z = true then (z, i + 1) else (0, 0) := by
  obtain ⟨k, rfl, h2, h3, h4, rfl⟩ := h
  have hsplit : s.data.toList.drop 2 = (s.data.toList.drop 2).take k ++ (s.data.toList.drop 2).drop k := (List.take_append_drop _ _).symm
  have hdd : (s.data.toList.drop 2).drop k = s.data.toList.drop (k + 2) := by rw [List.drop_drop, Nat.add_comm]
  have hkl : ((s.data.toList.drop 2).take k).length = k := by rw [List.length_take]; omega
  have hrun : hexRun 6 (s.data.toList.drop 2) 0 = (valF 0 ((s.data.toList.drop 2).take k), k) := by
    have hr := hexRun_all 6 ((s.data.toList.drop 2).take k) ((s.data.toList.drop 2).drop k) 0 h4 (by rw [hkl]; exact h2)
    rw [← hsplit, hkl, hdd] at hr
    have hstop : hexRun (6 - k) (s.data.toList.drop (k + 2)) (valF 0 ((s.data.toList.drop 2).take k)) = (valF 0 ((s.data.toList.drop 2).take k), 0) := by
      rcases he with he | he | ⟨hi, he⟩
      · obtain rfl : k = 6 := by omega
        rfl
      · rw [List.drop_eq_nil_of_le (by rw [sizeL]; exact he)]
        cases 6 - k <;> rfl
      · rw [drop_at s (k + 2) hi]
        exact hexRun_stop _ he
    rw [hstop, Nat.zero_add] at hr
    exact hr
  unfold braced
  rw [if_pos hp, hrun]
  show (if k = 0 then (0, 0) else if (s.data.toList.drop (2 + k)).head? = some 125 ∧ isCh (valF 0 ((s.data.toList.drop 2).take k)) = true then (valF 0 ((s.data.toList.drop 2).take k), k + 3) else (0, 0)) = _
  rw [Nat.add_comm 2 k]
  by_cases hk : k = 0
  · rw [if_pos hk, if_neg (by rintro ⟨⟨h, _⟩, _⟩; omega)]
  · rw [if_neg hk]
    by_cases hc : (s.data.toList.drop (k + 2)).head? = some 125 ∧ isCh (valF 0 ((s.data.toList.drop 2).take k)) = true
    · rw [if_pos hc, if_pos ⟨⟨by omega, hc.1⟩, hc.2⟩]
    · rw [if_neg hc, if_neg (fun h => hc ⟨h.1.2, h.2⟩)]
set_option maxRecDepth 100000 in
set_option maxHeartbeats 1000000 in
theorem braced_r (s : ByteArray) (hs : s.size ≤ 140000) (w : World) : Calls Tryz.prog 27 #[.string s] w fun e w' => e = .returned (.tuple #[.int .i64 (braced s.data.toList).1, .int .i64 ((braced s.data.toList).2 : Int)]) ∧ w = w' := by
  by_cases h4 : s.size < 4
  · have HB : Hid (braced s.data.toList = (0, 0)) := Lib.hid (by
      have hl : s.data.toList.length < 4 := by rw [sizeL]; exact h4
      unfold braced
      by_cases hp : s.data.toList.take 2 = [120, 123]
      · rw [if_pos hp]
        split
        · rfl
        · rename_i hn
          rw [if_neg]
          rintro ⟨h1, _⟩
          have : s.data.toList.drop (2 + (hexRun 6 (s.data.toList.drop 2) 0).2) ≠ [] := by
            intro e; rw [e] at h1; cases h1
          rw [ne_eq, List.drop_eq_nil_iff] at this
          omega
      · rw [if_neg hp])
    go_enter Tryz.func27, Tryz.ntmps27
    go_wp2
    go_ret2
    exact ⟨by rw [HB.out]; rfl, rfl⟩
  · have hE : (s.extract 0 2).data.toList = s.data.toList.take 2 := takeB s 2
    by_cases hp : s.data.toList.take 2 = [120, 123]
    · have hq : ((s.extract 0 2).toList == [120, 123]) = true := by rw [ByteArray.toList_eq, hE, hp]; rfl
      have HF := Lib.hid (fun (i : Nat) (z : Int) (h : BrI s.data.toList i z) (he : i = 8 ∨ (s.size ≤ i) ∨ ∃ hi : i < s.size, hexV (s[i].toNat : Int) < 0) => h.fin hp he)
      have H0 : Hid (BrI s.data.toList 2 0) := Lib.hid ⟨0, rfl, by decide, Nat.zero_le _, rfl, rfl⟩
      clear hE hp
      generalize braced s.data.toList = A at *
      go_enter Tryz.func27, Tryz.ntmps27
      go_wp2_with fail
      go_loop [4, 5] (fun cv iv => ∃ (i : Nat) (z : Int), cv = .int .i64 z ∧ iv = .int .i64 i ∧ i ≤ s.size ∧ Hid (BrI s.data.toList i z)) (fun _ iv => s.size - (intOf iv).toNat)
      case atStart => exact ⟨2, 0, rfl, rfl, by omega, H0⟩
      case round =>
        obtain ⟨i, z, rfl, rfl, hi, HI⟩ := hrel
        clear H0
        obtain ⟨b1, b2, b3, b4⟩ := HI.out.bound
        by_cases hlt : i < s.size
        · have HL := Lib.hid (fun w => digit_r s[i] w)
          have hxg := hexV_ge (s[i].toNat : Int)
          have hc8 := s[i].toNat_lt
          by_cases hgo : i < 8 ∧ 0 ≤ hexV (s[i].toNat : Int)
          · obtain ⟨g8, gx⟩ := hgo
            have HI2 := Lib.hid (HI.out.step hlt g8 gx)
            clear HI HF
            generalize hexV (s[i].toNat : Int) = x at *
            go_wp2_with (go_at_call 52; refine (HL.out _).mono ?_; rintro e w3 ⟨rfl, rfl⟩)
            go_round
            case rel => exact ⟨i + 1, _, rfl, by go_num, by omega, HI2⟩
            case measure => simp [intOf]; omega
          · have HA := Lib.hid (HF.out i z HI.out (by
              by_cases g8 : i < 8
              · exact .inr (.inr ⟨hlt, by
                  rcases Int.lt_or_le (hexV (s[i].toNat : Int)) 0 with h | h
                  · exact h
                  · exact absurd ⟨g8, h⟩ hgo⟩)
              · exact .inl (by omega)))
            rw [drop_at s i hlt] at HA
            have hq : (s[i] :: s.data.toList.drop (i + 1)).head? = some s[i] := rfl
            rw [hq] at HA
            have HCH := Lib.hid (fun w => isChar_r z w)
            have hne : ((i : Int) == (s.size : Int)) = false := beq_eq_false_iff_ne.2 (by omega)
            have hex : (8 ≤ i) ∨ (i < 8 ∧ hexV (s[i].toNat : Int) < 0) := by
              by_cases g8 : i < 8
              · right; refine ⟨g8, ?_⟩
                rcases Int.lt_or_le (hexV (s[i].toNat : Int)) 0 with h | h
                · exact h
                · exact absurd ⟨g8, h⟩ hgo
              · left; omega
            clear HI HF hgo hq
            have h125 : s[i] = 125 ∨ (((s[i].toNat : Int) == 125) = false ∧ ¬ s[i] = 125) := by
              by_cases h : s[i] = 125
              · exact .inl h
              · refine .inr ⟨beq_eq_false_iff_ne.2 (fun e => h ?_), h⟩
                have e2 : s[i].toNat = 125 := by omega
                have := UInt8.ofNat_toNat (x := s[i])
                rw [e2] at this; exact this.symm
            rcases h125 with h125 | ⟨h125, h125'⟩
            · have hc : (s[i].toNat : Int) = 125 := by rw [h125]; rfl
              rw [hc, show hexV 125 = -1 from rfl] at HL
              rw [h125] at HA
              clear h125 hex hxg hc8
              cases hch : isCh z with
              | true =>
                have HA2 : Hid (A = if i = 2 then (0, 0) else (z, i + 1)) := Lib.hid (by
                  rw [HA.out]
                  by_cases e2 : i = 2
                  · rw [if_pos e2, if_neg]; rintro ⟨⟨h, _⟩, _⟩; exact h e2
                  · rw [if_neg e2, if_pos ⟨⟨e2, rfl⟩, hch⟩])
                rw [hch] at HCH
                clear HA hch
                go_wp2_with (first | (go_at_call 52; refine (HL.out _).mono ?_; rintro e w3 ⟨rfl, rfl⟩) | (go_at_call 53; refine (HCH.out _).mono ?_; rintro e w3 ⟨rfl, rfl⟩))
                all_goals
                  go_ret2
                  exact ⟨by first | (rw [HA2.out, if_pos (by omega)]; rfl) | (rw [HA2.out, if_neg (by omega)]; rfl), rfl⟩
              | false =>
                have HA2 : Hid (A = (0, 0)) := Lib.hid (by rw [HA.out, if_neg]; rintro ⟨_, h⟩; rw [hch] at h; cases h)
                rw [hch] at HCH
                clear HA hch
                go_wp2_with (first | (go_at_call 52; refine (HL.out _).mono ?_; rintro e w3 ⟨rfl, rfl⟩) | (go_at_call 53; refine (HCH.out _).mono ?_; rintro e w3 ⟨rfl, rfl⟩))
                all_goals
                  go_ret2
                  exact ⟨by rw [HA2.out]; rfl, rfl⟩
            · have HA2 : Hid (A = (0, 0)) := Lib.hid (by rw [HA.out, if_neg]; rintro ⟨⟨_, h⟩, _⟩; exact h125' (Option.some.inj h))
              have hn125 : ((s[i].toNat : Int) != 125) = true := by
                show (!((s[i].toNat : Int) == 125)) = true
                rw [h125]; rfl
              clear HA h125'
              generalize hexV (s[i].toNat : Int) = x at *
              rcases hex with g8 | ⟨g8, gx⟩
              all_goals
                go_wp2_with (go_at_call 52; refine (HL.out _).mono ?_; rintro e w3 ⟨rfl, rfl⟩)
                all_goals
                  go_ret2
                  exact ⟨by rw [HA2.out]; rfl, rfl⟩
        · have HA := Lib.hid (HF.out i z HI.out (.inr (.inl (by omega))))
          have HA2 : Hid (A = (0, 0)) := Lib.hid (by
            rw [HA.out, List.drop_eq_nil_of_le (by rw [sizeL]; omega), if_neg]
            rintro ⟨⟨_, h⟩, _⟩; cases h)
          obtain rfl : i = s.size := by omega
          clear HA HF HI
          have hb2 : ((s.size : Int) == 2) = false := beq_eq_false_iff_ne.2 (by omega)
          go_wp2
          go_ret2
          exact ⟨by rw [HA2.out]; rfl, rfl⟩
    · have HB : Hid (braced s.data.toList = (0, 0)) := Lib.hid (braced_no hp)
      have hq : ((s.extract 0 2).toList == [120, 123]) = false := by
        rw [ByteArray.toList_eq, hE]; exact beq_eq_false_iff_ne.2 hp
      clear hE hp
      go_enter Tryz.func27, Tryz.ntmps27
      go_wp2
      go_ret2
      exact ⟨by rw [HB.out]; rfl, rfl⟩
end Go.Proofs.YtcaoknlgbocgpaaGreatDoor
