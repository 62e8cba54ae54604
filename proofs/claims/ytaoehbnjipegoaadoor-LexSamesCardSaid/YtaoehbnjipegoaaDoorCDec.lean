/- The model's reading of a character in a range over a text, against the first character of the rest. Names no function of the program. -/
import Derived.Test.YtaoehbnjipegoaaDoorCUtf2
import Derived.Laws.Runes
import Derived.Laws.RangeAny
import Derived.Lib.RuneCount
namespace Go.Proofs.YtaoehbnjipegoaaDoor
open Go.RowKit
def decL (l : List UInt8) : Nat × Nat :=
  let at' (k : Nat) : Nat := (l.getD k 0).toNat
  let cont (k : Nat) : Bool := k < l.length && at' k / 64 == 2
  let b0 := at' 0
  if b0 < 0x80 then (b0, 1)
  else if b0 / 32 == 6 && cont 1 then
    let c := (b0 % 32) * 64 + at' 1 % 64
    if c ≥ 0x80 then (c, 2) else (Utf8.runeError, 1)
  else if b0 / 16 == 14 && cont 1 && cont 2 then
    let c := (b0 % 16) * 4096 + (at' 1 % 64) * 64 + at' 2 % 64
    if c ≥ 0x800 && Utf8.valid c then (c, 3) else (Utf8.runeError, 1)
  else if b0 / 8 == 30 && cont 1 && cont 2 && cont 3 then
    let c := (b0 % 8) * 262144 + (at' 1 % 64) * 4096 + (at' 2 % 64) * 64 + at' 3 % 64
    if c ≥ 0x10000 && Utf8.valid c then (c, 4) else (Utf8.runeError, 1)
  else (Utf8.runeError, 1)
theorem get_drop (s : ByteArray) (i k : Nat) : s.get! (i + k) = (s.data.toList.drop i).getD k 0 := by
  rw [List.getD_eq_getElem?_getD, List.getElem?_drop]
  show s.data[i + k]! = _
  rw [Array.getElem!_eq_getD, Array.getD_eq_getD_getElem?]
  simp
  rfl
theorem decode_list (s : ByteArray) (i : Nat) : Utf8.decode s i = decL (s.data.toList.drop i) := by
  have h2 : ∀ k, (decide (i + k < s.size)) = decide (k < (s.data.toList.drop i).length) := by
    intro k
    rw [List.length_drop, sizeL]
    congr 1
    exact propext (by omega)
  unfold Utf8.decode decL
  simp only [get_drop, h2]
theorem valid_ch (c : Nat) : Utf8.valid (c : Int) = isCh (c : Int) := by
  rw [Bool.eq_iff_iff, isCh_true]
  simp [Utf8.valid]; omega
theorem made_no {n : Nat} {m c : Int} (h : c < m ∨ isCh c = false) : made n m (some c) = (0, 0) := if_pos h
theorem decL_first (l : List UInt8) (h : l ≠ []) : decL l = if (firstL l).2 = 0 then (65533, 1) else ((firstL l).1.toNat, (firstL l).2) := by
  obtain ⟨b, r, rfl⟩ : ∃ b r, l = b :: r := by cases l with
    | nil => exact absurd rfl h
    | cons b r => exact ⟨b, r, rfl⟩
  rw [firstL_cons]
  have hb := b.toNat_lt
  by_cases h1 : (b.toNat : Int) < 128
  · rw [firstC_one h1]
    have h1' : b.toNat < 128 := by omega
    unfold decL
    simp [h1']
  have hn1 : ¬ b.toNat < 128 := by omega
  have dno : ¬ (192 ≤ b.toNat ∧ b.toNat < 224) → ¬ (224 ≤ b.toNat ∧ b.toNat < 240) → ¬ (240 ≤ b.toNat ∧ b.toNat < 248) → decL (b :: r) = (65533, 1) := by
    intro g1 g2 g3
    have e1 : (b.toNat / 32 == 6) = false := by simp; omega
    have e2 : (b.toNat / 16 == 14) = false := by simp; omega
    have e3 : (b.toNat / 8 == 30) = false := by simp; omega
    unfold decL
    simp [hn1, e1, e2, e3, Utf8.runeError]
  rcases lead_cases (b.toNat : Int) with ⟨b1, b2, f1, f2, f3⟩ | ⟨b1, b2, f1, f2, f3⟩ | ⟨b1, b2, f1, f2, f3⟩ | ⟨b1, f1⟩ | ⟨b1, f1⟩
  case inr.inr.inr.inl => rw [firstC_no h1 (.inl f1), dno (by omega) (by omega) (by omega)]; rfl
  case inr.inr.inr.inr => rw [firstC_no h1 (.inl f1), dno (by omega) (by omega) (by omega)]; rfl
  · have e1 : (b.toNat / 32 == 6) = true := by simp; omega
    have e2 : (b.toNat / 16 == 14) = false := by simp; omega
    have e3 : (b.toNat / 8 == 30) = false := by simp; omega
    rcases r with _ | ⟨x, r⟩
    · rw [firstC_no h1 (.inr (by rw [f1]; simp))]
      unfold decL
      simp [hn1, e1, e2, e3, Utf8.runeError]
    rw [firstC_made h1 (by rw [f1]; simp), f1, f2, f3]
    show _ = if (made 2 128 (cont [x] ((b.toNat : Int) - 192))).2 = 0 then _ else ((made 2 128 (cont [x] ((b.toNat : Int) - 192))).1.toNat, (made 2 128 (cont [x] ((b.toNat : Int) - 192))).2)
    by_cases hx : goesB (x.toNat : Int) = true
    · have hx' := goes_true.1 hx
      have ex : (x.toNat / 64 == 2) = true := by simp; omega
      rw [cont_on hx, cont]
      have ev : ((b.toNat : Int) - 192) * 64 + (x.toNat : Int) - 128 = ((b.toNat % 32 * 64 + x.toNat % 64 : Nat) : Int) := by omega
      rw [ev]
      generalize hc : b.toNat % 32 * 64 + x.toNat % 64 = c
      have hcb : c < 2048 := by omega
      by_cases hl : 128 ≤ c
      · rw [made_some (by omega) (isCh_true.2 (by omega))]
        unfold decL
        simp [hn1, e1, ex, hc, hl]
      · rw [made_no (.inl (by omega))]
        unfold decL
        simp [hn1, e1, ex, hc, hl, Utf8.runeError]
    · have hx' : goesB (x.toNat : Int) = false := by simpa using hx
      have ex : (x.toNat / 64 == 2) = false := by
        have : ¬ (128 ≤ (x.toNat : Int) ∧ (x.toNat : Int) < 192) := fun h => hx (goes_true.2 h)
        simp; omega
      rw [cont_no hx']
      unfold decL
      simp [hn1, e1, e2, e3, ex, Utf8.runeError, made]
  · have e1 : (b.toNat / 32 == 6) = false := by simp; omega
    have e2 : (b.toNat / 16 == 14) = true := by simp; omega
    have e3 : (b.toNat / 8 == 30) = false := by simp; omega
    rcases r with _ | ⟨x, _ | ⟨y, r⟩⟩
    · rw [firstC_no h1 (.inr (by rw [f1]; simp))]
      unfold decL
      simp [hn1, e1, e2, e3, Utf8.runeError]
    · rw [firstC_no h1 (.inr (by rw [f1]; simp))]
      unfold decL
      simp [hn1, e1, e2, e3, Utf8.runeError]
    rw [firstC_made h1 (by rw [f1]; simp), f1, f2, f3]
    show _ = if (made 3 2048 (cont [x, y] ((b.toNat : Int) - 224))).2 = 0 then _ else ((made 3 2048 (cont [x, y] ((b.toNat : Int) - 224))).1.toNat, (made 3 2048 (cont [x, y] ((b.toNat : Int) - 224))).2)
    by_cases hx : goesB (x.toNat : Int) = true
    · have hx' := goes_true.1 hx
      have ex : (x.toNat / 64 == 2) = true := by simp; omega
      rw [cont_on hx]
      by_cases hy : goesB (y.toNat : Int) = true
      · have hy' := goes_true.1 hy
        have ey : (y.toNat / 64 == 2) = true := by simp; omega
        rw [cont_on hy, cont]
        have ev : (((b.toNat : Int) - 224) * 64 + (x.toNat : Int) - 128) * 64 + (y.toNat : Int) - 128 = ((b.toNat % 16 * 4096 + x.toNat % 64 * 64 + y.toNat % 64 : Nat) : Int) := by omega
        rw [ev]
        generalize hc : b.toNat % 16 * 4096 + x.toNat % 64 * 64 + y.toNat % 64 = c
        by_cases hl : 2048 ≤ c ∧ isCh (c : Int) = true
        · rw [made_some (by omega) hl.2]
          unfold decL
          simp [hn1, e1, e2, ex, ey, hc, valid_ch, hl]
        · have hl' : ((c : Int) < 2048 ∨ isCh (c : Int) = false) := by
            by_cases g : 2048 ≤ c
            · right; cases hi : isCh (c : Int)
              · rfl
              · exact absurd ⟨g, hi⟩ hl
            · left; omega
          rw [made_no hl']
          unfold decL
          simp [hn1, e1, e2, ex, ey, hc, valid_ch, Utf8.runeError]
          intro g1
          cases hi : isCh (c : Int)
          · rfl
          · exact absurd ⟨g1, hi⟩ hl
      · have hy' : goesB (y.toNat : Int) = false := by simpa using hy
        have ey : (y.toNat / 64 == 2) = false := by
          have : ¬ (128 ≤ (y.toNat : Int) ∧ (y.toNat : Int) < 192) := fun h => hy (goes_true.2 h)
          simp; omega
        rw [cont_no hy']
        unfold decL
        simp [hn1, e1, e2, e3, ey, Utf8.runeError, made]
    · have hx' : goesB (x.toNat : Int) = false := by simpa using hx
      have ex : (x.toNat / 64 == 2) = false := by
        have : ¬ (128 ≤ (x.toNat : Int) ∧ (x.toNat : Int) < 192) := fun h => hx (goes_true.2 h)
        simp; omega
      rw [cont_no hx']
      unfold decL
      simp [hn1, e1, e2, e3, ex, Utf8.runeError, made]
  · have e1 : (b.toNat / 32 == 6) = false := by simp; omega
    have e2 : (b.toNat / 16 == 14) = false := by simp; omega
    have e3 : (b.toNat / 8 == 30) = true := by simp; omega
    rcases r with _ | ⟨x, _ | ⟨y, _ | ⟨z, r⟩⟩⟩
    · rw [firstC_no h1 (.inr (by rw [f1]; simp))]
      unfold decL
      simp [hn1, e1, e2, e3, Utf8.runeError]
    · rw [firstC_no h1 (.inr (by rw [f1]; simp))]
      unfold decL
      simp [hn1, e1, e2, e3, Utf8.runeError]
    · rw [firstC_no h1 (.inr (by rw [f1]; simp))]
      unfold decL
      simp [hn1, e1, e2, e3, Utf8.runeError]
    rw [firstC_made h1 (by rw [f1]; simp), f1, f2, f3]
    show _ = if (made 4 65536 (cont [x, y, z] ((b.toNat : Int) - 240))).2 = 0 then _ else ((made 4 65536 (cont [x, y, z] ((b.toNat : Int) - 240))).1.toNat, (made 4 65536 (cont [x, y, z] ((b.toNat : Int) - 240))).2)
    by_cases hx : goesB (x.toNat : Int) = true
    · have hx' := goes_true.1 hx
      have ex : (x.toNat / 64 == 2) = true := by simp; omega
      rw [cont_on hx]
      by_cases hy : goesB (y.toNat : Int) = true
      · have hy' := goes_true.1 hy
        have ey : (y.toNat / 64 == 2) = true := by simp; omega
        rw [cont_on hy]
        by_cases hz : goesB (z.toNat : Int) = true
        · have hz' := goes_true.1 hz
          have ez : (z.toNat / 64 == 2) = true := by simp; omega
          rw [cont_on hz, cont]
          have ev : ((((b.toNat : Int) - 240) * 64 + (x.toNat : Int) - 128) * 64 + (y.toNat : Int) - 128) * 64 + (z.toNat : Int) - 128 = ((b.toNat % 8 * 262144 + x.toNat % 64 * 4096 + y.toNat % 64 * 64 + z.toNat % 64 : Nat) : Int) := by omega
          rw [ev]
          generalize hc : b.toNat % 8 * 262144 + x.toNat % 64 * 4096 + y.toNat % 64 * 64 + z.toNat % 64 = c
          by_cases hl : 65536 ≤ c ∧ isCh (c : Int) = true
          · rw [made_some (by omega) hl.2]
            unfold decL
            simp [hn1, e1, e2, e3, ex, ey, ez, hc, valid_ch, hl]
          · have hl' : ((c : Int) < 65536 ∨ isCh (c : Int) = false) := by
              by_cases g : 65536 ≤ c
              · right; cases hi : isCh (c : Int)
                · rfl
                · exact absurd ⟨g, hi⟩ hl
              · left; omega
            rw [made_no hl']
            unfold decL
            simp [hn1, e1, e2, e3, ex, ey, ez, hc, valid_ch, Utf8.runeError]
            intro g1
            cases hi : isCh (c : Int)
            · rfl
            · exact absurd ⟨g1, hi⟩ hl
        · have hz' : goesB (z.toNat : Int) = false := by simpa using hz
          have ez : (z.toNat / 64 == 2) = false := by
            have : ¬ (128 ≤ (z.toNat : Int) ∧ (z.toNat : Int) < 192) := fun h => hz (goes_true.2 h)
            simp; omega
          rw [cont_no hz']
          unfold decL
          simp [hn1, e1, e2, e3, ez, Utf8.runeError, made]
      · have hy' : goesB (y.toNat : Int) = false := by simpa using hy
        have ey : (y.toNat / 64 == 2) = false := by
          have : ¬ (128 ≤ (y.toNat : Int) ∧ (y.toNat : Int) < 192) := fun h => hy (goes_true.2 h)
          simp; omega
        rw [cont_no hy']
        unfold decL
        simp [hn1, e1, e2, e3, ey, Utf8.runeError, made]
    · have hx' : goesB (x.toNat : Int) = false := by simpa using hx
      have ex : (x.toNat / 64 == 2) = false := by
        have : ¬ (128 ≤ (x.toNat : Int) ∧ (x.toNat : Int) < 192) := fun h => hx (goes_true.2 h)
        simp; omega
      rw [cont_no hx']
      unfold decL
      simp [hn1, e1, e2, e3, ex, Utf8.runeError, made]
/-- what a range over a text reads at a place -/
theorem decode_first (s : ByteArray) (i : Nat) (h : i < s.size) : Utf8.decode s i = if (firstL (s.data.toList.drop i)).2 = 0 then (65533, 1) else ((firstL (s.data.toList.drop i)).1.toNat, (firstL (s.data.toList.drop i)).2) := by
  rw [decode_list, decL_first _ (by rw [ne_eq, List.drop_eq_nil_iff, sizeL]; omega)]
theorem decode_ok {s : ByteArray} {i : Nat} (h : i < s.size) (hn : (firstL (s.data.toList.drop i)).2 ≠ 0) : Utf8.decode s i = ((firstL (s.data.toList.drop i)).1.toNat, (firstL (s.data.toList.drop i)).2) := by
  rw [decode_first s i h, if_neg hn]
theorem decode_bad {s : ByteArray} {i : Nat} (h : i < s.size) (hn : (firstL (s.data.toList.drop i)).2 = 0) : Utf8.decode s i = (65533, 1) := by
  rw [decode_first s i h, if_pos hn]
end Go.Proofs.YtaoehbnjipegoaaDoor
