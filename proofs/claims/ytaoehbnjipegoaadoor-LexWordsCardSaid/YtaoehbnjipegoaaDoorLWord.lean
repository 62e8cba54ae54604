/- Words: how many bytes at the begin of a text are a word, on both sides. -/
import Derived.Test.YtaoehbnjipegoaaDoorLPure
namespace Go.Proofs.YtaoehbnjipegoaaDoor
open Go.RowKit Go.Shelf
/-- at place n a `::` before a letter -/
def sepAt (l : List UInt8) (n : Nat) : Bool := Lib.hasPrefix (l.drop n) [58, 58] && (match l[n + 2]? with | some e => alphaB e.toNat | none => false)
/-- the end of a word that has come to place n -/
def wordR (l : List UInt8) : Nat → Nat → Nat
  | 0, n => n
  | f + 1, n => match l[n]? with
    | none => n
    | some c => if (alphaB c.toNat || digB c.toNat) = true then wordR l f (n + 1) else if sepAt l n = true then wordR l f (n + 3) else n
def wordN (l : List UInt8) : Nat := match l[0]? with
  | none => 0
  | some c => if alphaB c.toNat = true then wordR l l.length 1 else 0
variable {l : List UInt8} {f n : Nat}
theorem wordR_end (h : l.length ≤ n) : wordR l f n = n := by
  cases f with
  | zero => rfl
  | succ f => rw [wordR, List.getElem?_eq_none h]
theorem wordR_on (h : n < l.length) (hf : l.length ≤ n + f) (hc : (alphaB l[n].toNat || digB l[n].toNat) = true) : ∃ f', l.length ≤ n + 1 + f' ∧ wordR l f n = wordR l f' (n + 1) := by
  cases f with
  | zero => omega
  | succ f => exact ⟨f, by omega, by rw [wordR, List.getElem?_eq_getElem h]; simp only; rw [if_pos hc]⟩
theorem sep_len (h : sepAt l n = true) : n + 2 < l.length := by
  unfold sepAt at h
  by_cases h2 : n + 2 < l.length
  · exact h2
  · rw [List.getElem?_eq_none (by omega)] at h; simp at h
theorem wordR_sep (h : n < l.length) (hf : l.length ≤ n + f) (hc : (alphaB l[n].toNat || digB l[n].toNat) = false) (hs : sepAt l n = true) : ∃ f', l.length ≤ n + 3 + f' ∧ wordR l f n = wordR l f' (n + 3) := by
  have := sep_len hs
  cases f with
  | zero => omega
  | succ f => exact ⟨f, by omega, by rw [wordR, List.getElem?_eq_getElem h]; simp only; rw [if_neg (by rw [hc]; decide), if_pos hs]⟩
theorem wordR_stop (h : n < l.length) (hc : (alphaB l[n].toNat || digB l[n].toNat) = false) (hs : sepAt l n = false) : wordR l f n = n := by
  cases f with
  | zero => rfl
  | succ f => rw [wordR, List.getElem?_eq_getElem h]; simp only; rw [if_neg (by rw [hc]; decide), if_neg (by rw [hs]; decide)]
theorem wordR_le : ∀ (f n : Nat), n ≤ l.length → wordR l f n ≤ l.length ∧ n ≤ wordR l f n
  | 0, n, h => ⟨h, Nat.le_refl _⟩
  | f + 1, n, h => by
    rw [wordR]
    by_cases h1 : n < l.length
    · rw [List.getElem?_eq_getElem h1]
      simp only
      split
      · have := wordR_le f (n + 1) (by omega); omega
      · split
        · rename_i hs
          have h3 := sep_len hs
          have := wordR_le f (n + 3) (by omega); omega
        · exact ⟨h, Nat.le_refl _⟩
    · rw [List.getElem?_eq_none (by omega)]; exact ⟨h, Nat.le_refl _⟩
theorem wordN_le (l : List UInt8) : wordN l ≤ l.length := by
  unfold wordN
  by_cases h : 0 < l.length
  · rw [List.getElem?_eq_getElem h]
    simp only
    split
    · exact (wordR_le _ _ h).1
    · omega
  · rw [List.getElem?_eq_none (by omega)]; exact Nat.zero_le _
def leftTo (m : Nat) : Value → Nat
  | .int _ c => (m - c).toNat
  | _ => 0
theorem wordN_no (h : 0 < l.length) (ha : alphaB l[0].toNat = false) : wordN l = 0 := by
  unfold wordN; rw [List.getElem?_eq_getElem h]; simp only; rw [if_neg (by rw [ha]; decide)]
theorem wordN_yes (h : 0 < l.length) (ha : alphaB l[0].toNat = true) : wordN l = wordR l l.length 1 := by
  unfold wordN; rw [List.getElem?_eq_getElem h]; simp only; rw [if_pos ha]
theorem byteE (s : ByteArray) (n : Nat) (_h : n < s.size) (_h' : n < s.data.toList.length) : s[n] = s.data.toList[n] := by
  rw [Array.getElem_toList]; rfl
set_option maxRecDepth 100000 in
set_option maxHeartbeats 1000000 in
theorem word_p (s : ByteArray) (hs : s.size ≤ 140737488351232) (w : World) : Calls Tryd.prog 17 #[.string s] w fun e w' => e = .returned (.int .i64 (wordN s.data.toList)) ∧ w = w' := by
  have HA := Lib.hid alpha_p
  have HD := Lib.hid dig_p
  have HP := Lib.hid (fun s w => prefix_any s ⟨#[58, 58]⟩ w)
  obtain ⟨l, hl⟩ : ∃ l, l = s.data.toList := ⟨_, rfl⟩
  have hsz : s.size = l.length := by rw [hl, ← sizeL]
  by_cases h0 : l = []
  · have hse : s = ⟨#[]⟩ := by
      rw [h0] at hl
      have h3 : s.data = #[] := by
        have := congrArg List.toArray hl
        simpa using this.symm
      cases s with | mk d => simp only at h3; rw [h3]
    subst hse
    go_enter Tryd.func17, Tryd.ntmps17
    go_wp2
    go_ret
    exact ⟨rfl, rfl⟩
  · have h1 : 0 < l.length := List.length_pos_iff.2 h0
    have hne : (s.toList == []) = false := by
      rw [ByteArray.toList_eq, ← hl]; simpa using h0
    have hb : ∀ n (h : n < s.size) (h' : n < l.length), s[n] = l[n] := fun n h h' => by subst hl; exact byteE s n h h'
    have HB := Lib.hid hb
    by_cases ha : alphaB l[0].toNat = true
    · have HR : Hid (∃ f, l.length ≤ 1 + f ∧ wordN l = wordR l f 1) := Lib.hid ⟨_, by omega, wordN_yes h1 ha⟩
      have hsz1 : 0 < s.size := by omega
      have e0 := hb 0 hsz1 h1
      rw [← hl]
      have hA0 := Lib.hid (fun w => HA.out l[0].toNat w)
      rw [ha] at hA0
      generalize wordN l = R at *
      have Hl := Lib.hid hl
      have Hsz := Lib.hid hsz
      clear hl hsz hb
      go_enter Tryd.func17, Tryd.ntmps17
      go_wp2_with fail
      refine (hA0.out _).mono ?_
      rintro e w1 ⟨rfl, rfl⟩
      clear hsz1 e0 ha h0 hne hA0
      go_wp2_with fail
      go_loopw [3] (fun sc wr => ∃ n f : Nat, sc = .int .i64 (n : Int) ∧ n ≤ l.length ∧ l.length ≤ n + f ∧ w = wr ∧ Hid (R = wordR l f n)) (fun sc _ => leftTo l.length sc)
      case atStart => obtain ⟨f, h2, h3⟩ := HR.out; exact ⟨1, f, rfl, by omega, h2, rfl, Lib.hid h3⟩
      case round =>
        obtain ⟨n, f, rfl, hn, hf, rfl, hR⟩ := hrel
        clear HR
        have b0 : (n : Int) + 3 ≤ 9223372036854775807 := by have := Hsz.out; omega
        have c0 : -9223372036854775808 ≤ (n : Int) + 3 := by omega
        have c1 : -9223372036854775808 ≤ (n : Int) + 1 := by omega
        have c2 : -9223372036854775808 ≤ (n : Int) + 2 := by omega
        have b1 : (n : Int) + 1 ≤ 9223372036854775807 := by omega
        have b2 : (n : Int) + 2 ≤ 9223372036854775807 := by omega
        by_cases hc : n < l.length
        · have hsn : n < s.size := by rw [Hsz.out]; exact hc
          have hc' : (n : Int) < (s.size : Int) := by omega
          have en := HB.out n hsn hc
          have hpx := Lib.hid (fun w => HP.out (s.extract n s.size) w)
          rw [dropE, ← Hl.out] at hpx
          have hA := Lib.hid (fun w => HA.out l[n].toNat w)
          have hD := Lib.hid (fun w => HD.out l[n].toNat w)
          by_cases ha : (alphaB l[n].toNat || digB l[n].toNat) = true
          · have HE : Hid (∃ f', l.length ≤ n + 1 + f' ∧ R = wordR l f' (n + 1)) := Lib.hid (by rw [hR.out]; exact wordR_on hc hf ha)
            generalize alphaB l[n].toNat = a at *
            generalize digB l[n].toNat = d at *
            clear hR HA HD HP HB hpx
            cases a
            · obtain rfl : d = true := by simpa using ha
              clear ha
              go_wp2_with fail
              refine (hA.out _).mono ?_
              rintro e w1 ⟨rfl, rfl⟩
              go_wp2_with fail
              refine (hD.out _).mono ?_
              rintro e w1 ⟨rfl, rfl⟩
              go_wp2
              go_roundw
              case rel => obtain ⟨f', h5, h6⟩ := HE.out; exact ⟨n + 1, f', rfl, by omega, h5, trivial, Lib.hid h6⟩
              case measure => simp only [leftTo]; omega
            · clear ha
              go_wp2_with fail
              refine (hA.out _).mono ?_
              rintro e w1 ⟨rfl, rfl⟩
              go_wp2
              go_roundw
              case rel => obtain ⟨f', h5, h6⟩ := HE.out; exact ⟨n + 1, f', rfl, by omega, h5, trivial, Lib.hid h6⟩
              case measure => simp only [leftTo]; omega
          · have ha' : (alphaB l[n].toNat || digB l[n].toNat) = false := by simpa using ha
            have ha1 : alphaB l[n].toNat = false := by revert ha'; cases alphaB l[n].toNat <;> simp
            have ha2 : digB l[n].toNat = false := by revert ha'; cases alphaB l[n].toNat <;> simp
            rw [ha1] at hA
            rw [ha2] at hD
            by_cases hs : sepAt l n = true
            · have hsl := sep_len hs
              have HE : Hid (∃ f', l.length ≤ n + 3 + f' ∧ R = wordR l f' (n + 3)) := Lib.hid (by rw [hR.out]; exact wordR_sep hc hf ha' hs)
              have hs2 := hs
              unfold sepAt at hs2
              rw [List.getElem?_eq_getElem hsl] at hs2
              simp only [Bool.and_eq_true] at hs2
              obtain ⟨g1, g2⟩ := hs2
              have hsn2 : n + 2 < s.size := by rw [Hsz.out]; exact hsl
              have en2 := HB.out (n + 2) hsn2 hsl
              obtain ⟨m, hm⟩ : ∃ m, m = n + 2 := ⟨_, rfl⟩
              have hm' : (n : Int) + 2 = (m : Int) := by omega
              have hsm : m < s.size := by omega
              have hcm : (m : Int) < (s.size : Int) := by omega
              have bm : (m : Int) ≤ 9223372036854775807 := by omega
              have enm : s[m] = l[n + 2] := by subst hm; exact en2
              have hA2 := Lib.hid (fun w => HA.out l[n + 2].toNat w)
              rw [g1] at hpx
              rw [g2] at hA2
              have Hn2 := Lib.hid hsl
              clear hR HA HD HP HB ha ha' hs g1 g2 ha1 ha2
              clear en2
              generalize l[n + 2] = x2 at *
              generalize l[n] = x0 at *
              clear hsl hc hsn2 hm b2 c2
              go_wp2_with fail
              refine (hA.out _).mono ?_
              rintro e w1 ⟨rfl, rfl⟩
              go_wp2_with fail
              refine (hD.out _).mono ?_
              rintro e w1 ⟨rfl, rfl⟩
              go_wp2_with fail
              refine (hpx.out _).mono ?_
              rintro e w1 ⟨rfl, rfl⟩
              go_wp2_with fail
              refine (hA2.out _).mono ?_
              rintro e w1 ⟨rfl, rfl⟩
              go_wp2
              go_roundw
              case rel => obtain ⟨f', h5, h6⟩ := HE.out; have := Hn2.out; exact ⟨n + 3, f', rfl, by omega, h5, trivial, Lib.hid h6⟩
              case measure => have := Hn2.out; simp only [leftTo]; omega
            · have hs' : sepAt l n = false := by simpa using hs
              have E : Hid (R = n) := Lib.hid (by rw [hR.out, wordR_stop hc ha' hs'])
              unfold sepAt at hs'
              by_cases g1 : Lib.hasPrefix (l.drop n) [58, 58] = true
              · rw [g1] at hpx hs'
                by_cases hsl : n + 2 < l.length
                · rw [List.getElem?_eq_getElem hsl] at hs'
                  simp only [Bool.true_and] at hs'
                  have hsn2 : n + 2 < s.size := by rw [Hsz.out]; exact hsl
                  have en2 := HB.out (n + 2) hsn2 hsl
                  obtain ⟨m, hm⟩ : ∃ m, m = n + 2 := ⟨_, rfl⟩
                  have hm' : (n : Int) + 2 = (m : Int) := by omega
                  have hsm : m < s.size := by omega
                  have hcm : (m : Int) < (s.size : Int) := by omega
                  have bm : (m : Int) ≤ 9223372036854775807 := by omega
                  have enm : s[m] = l[n + 2] := by subst hm; exact en2
                  have hA2 := Lib.hid (fun w => HA.out l[n + 2].toNat w)
                  rw [hs'] at hA2
                  clear hR HA HD HP HB ha ha' hs g1 ha1 ha2 hs'
                  clear en2
                  generalize l[n + 2] = x2 at *
                  generalize l[n] = x0 at *
                  clear hsl hc hsn2 hm b2 c2
                  go_wp2_with fail
                  refine (hA.out _).mono ?_
                  rintro e w1 ⟨rfl, rfl⟩
                  go_wp2_with fail
                  refine (hD.out _).mono ?_
                  rintro e w1 ⟨rfl, rfl⟩
                  go_wp2_with fail
                  refine (hpx.out _).mono ?_
                  rintro e w1 ⟨rfl, rfl⟩
                  go_wp2_with fail
                  refine (hA2.out _).mono ?_
                  rintro e w1 ⟨rfl, rfl⟩
                  go_wp2
                  go_ret
                  exact ⟨by rw [E.out]; rfl, rfl⟩
                · have hc2 : decide ((n : Int) + 2 < (s.size : Int)) = false := by rw [Hsz.out]; simp; omega
                  clear hR HA HD HP HB ha ha' hs g1 ha1 ha2 hs' hsl
                  go_wp2_with fail
                  refine (hA.out _).mono ?_
                  rintro e w1 ⟨rfl, rfl⟩
                  go_wp2_with fail
                  refine (hD.out _).mono ?_
                  rintro e w1 ⟨rfl, rfl⟩
                  go_wp2_with fail
                  refine (hpx.out _).mono ?_
                  rintro e w1 ⟨rfl, rfl⟩
                  go_wp2
                  go_ret
                  exact ⟨by rw [E.out]; rfl, rfl⟩
              · rw [show Lib.hasPrefix (l.drop n) [58, 58] = false by simpa using g1] at hpx
                clear hR HA HD HP HB ha ha' hs g1 ha1 ha2 hs'
                go_wp2_with fail
                refine (hA.out _).mono ?_
                rintro e w1 ⟨rfl, rfl⟩
                go_wp2_with fail
                refine (hD.out _).mono ?_
                rintro e w1 ⟨rfl, rfl⟩
                go_wp2_with fail
                refine (hpx.out _).mono ?_
                rintro e w1 ⟨rfl, rfl⟩
                go_wp2
                go_ret
                exact ⟨by rw [E.out]; rfl, rfl⟩
        · have hc' : ¬ (n : Int) < (s.size : Int) := by rw [Hsz.out]; omega
          have E : Hid (R = n) := Lib.hid (by rw [hR.out, wordR_end (by omega)])
          clear hR HA HD HP HB
          go_wp2
          go_ret
          exact ⟨by rw [E.out]; rfl, rfl⟩
    · have hsz1 : 0 < s.size := by omega
      have e0 := hb 0 hsz1 h1
      have ha' : alphaB l[0].toNat = false := by simpa using ha
      rw [← hl, wordN_no h1 ha']
      have hA := Lib.hid (fun w => HA.out l[0].toNat w)
      rw [ha'] at hA
      clear HA HD HP HB hb ha hsz hl
      go_enter Tryd.func17, Tryd.ntmps17
      go_wp2_with fail
      refine (hA.out _).mono ?_
      rintro e w1 ⟨rfl, rfl⟩
      go_wp2
      go_ret
      exact ⟨rfl, rfl⟩
end Go.Proofs.YtaoehbnjipegoaaDoor
