/- Words: the reference's side; which texts are words, on both sides. -/
import Derived.Test.YtaoehbnjipegoaaDoorLWord
namespace Go.Proofs.YtaoehbnjipegoaaDoor
open Go.RowKit Go.Shelf
variable {l : List UInt8} {f n : Nat}
theorem sep_eq (h : n + 2 < l.length) : sepAt l n = (l[n] == 58 && l[n + 1] == 58 && alphaB l[n + 2].toNat) := by
  unfold sepAt
  rw [List.getElem?_eq_getElem h, List.drop_eq_getElem_cons (by omega : n < l.length), List.drop_eq_getElem_cons (by omega : n + 1 < l.length)]
  simp only [Lib.hasPrefix, List.isPrefixOf, Bool.and_true]
  rw [BEq.comm (a := (58 : UInt8)), BEq.comm (a := (58 : UInt8))]
theorem sep_short (h : ¬ n + 2 < l.length) : sepAt l n = false := by
  cases hs : sepAt l n with
  | false => rfl
  | true => exact absurd (sep_len hs) h
set_option maxRecDepth 100000 in
set_option maxHeartbeats 2000000 in
theorem word_r (s : ByteArray) (hs : s.size ≤ 140737488351232) (w : World) : Calls Tryd.prog 18 #[.string s] w fun e w' => e = .returned (.int .i64 (wordN s.data.toList)) ∧ w = w' := by
  have HA := Lib.hid alpha_r
  have HD := Lib.hid dig_r
  obtain ⟨l, hl⟩ : ∃ l, l = s.data.toList := ⟨_, rfl⟩
  have hsz : s.size = l.length := by rw [hl, ← sizeL]
  by_cases h0 : l = []
  · have hse : s = ⟨#[]⟩ := by
      rw [h0] at hl
      have h3 : s.data = #[] := by
        have := congrArg List.toArray hl
        simpa using this.symm
      cases s with | mk d => simp only at h3; rw [h3]
    subst hse
    go_enter Tryd.func18, Tryd.ntmps18
    go_wp2
    go_ret
    exact ⟨rfl, rfl⟩
  · have h1 : 0 < l.length := List.length_pos_iff.2 h0
    have hne : (s.toList == []) = false := by
      rw [ByteArray.toList_eq, ← hl]; simpa using h0
    have hb : ∀ n (h : n < s.size) (h' : n < l.length), s[n] = l[n] := fun n h h' => by subst hl; exact byteE s n h h'
    have HB := Lib.hid hb
    by_cases ha : alphaB l[0].toNat = true
    · have HR : Hid (∃ f, l.length ≤ 1 + f ∧ wordN l = wordR l f 1) := Lib.hid ⟨_, by omega, wordN_yes h1 ha⟩
      have hsz1 : 0 < s.size := by omega
      have e0 := hb 0 hsz1 h1
      rw [← hl]
      have hA0 := Lib.hid (fun w => HA.out l[0].toNat w)
      rw [ha] at hA0
      generalize wordN l = R at *
      have Hl := Lib.hid hl
      have Hsz := Lib.hid hsz
      clear hl hsz hb
      go_enter Tryd.func18, Tryd.ntmps18
      go_wp2_with fail
      refine (hA0.out _).mono ?_
      rintro e w1 ⟨rfl, rfl⟩
      clear hsz1 e0 ha h0 hne hA0
      go_wp2_with fail
      go_loopw [3] (fun sc wr => ∃ n f : Nat, sc = .int .i64 (n : Int) ∧ n ≤ l.length ∧ l.length ≤ n + f ∧ w = wr ∧ Hid (R = wordR l f n)) (fun sc _ => leftTo l.length sc)
      case atStart => obtain ⟨f, h2, h3⟩ := HR.out; exact ⟨1, f, rfl, by omega, h2, rfl, Lib.hid h3⟩
      case round =>
        obtain ⟨n, f, rfl, hn, hf, rfl, hR⟩ := hrel
        clear HR
        have b0 : (n : Int) + 3 ≤ 9223372036854775807 := by have := Hsz.out; omega
        have c0 : -9223372036854775808 ≤ (n : Int) + 3 := by omega
        have c1 : -9223372036854775808 ≤ (n : Int) + 1 := by omega
        have c2 : -9223372036854775808 ≤ (n : Int) + 2 := by omega
        have b1 : (n : Int) + 1 ≤ 9223372036854775807 := by omega
        have b2 : (n : Int) + 2 ≤ 9223372036854775807 := by omega
        by_cases hc : n < l.length
        · have hsn : n < s.size := by rw [Hsz.out]; exact hc
          have hc' : (n : Int) < (s.size : Int) := by omega
          have en := HB.out n hsn hc
          have hA := Lib.hid (fun w => HA.out l[n].toNat w)
          have hD := Lib.hid (fun w => HD.out l[n].toNat w)
          by_cases ha : (alphaB l[n].toNat || digB l[n].toNat) = true
          · have HE : Hid (∃ f', l.length ≤ n + 1 + f' ∧ R = wordR l f' (n + 1)) := Lib.hid (by rw [hR.out]; exact wordR_on hc hf ha)
            generalize alphaB l[n].toNat = a at *
            generalize digB l[n].toNat = d at *
            clear hR HA HD HB
            cases a
            · obtain rfl : d = true := by simpa using ha
              clear ha
              go_wp2_with fail
              refine (hA.out _).mono ?_
              rintro e w1 ⟨rfl, rfl⟩
              go_wp2_with fail
              refine (hD.out _).mono ?_
              rintro e w1 ⟨rfl, rfl⟩
              go_wp2
              go_roundw
              case rel => obtain ⟨f', h5, h6⟩ := HE.out; exact ⟨n + 1, f', rfl, by omega, h5, trivial, Lib.hid h6⟩
              case measure => simp only [leftTo]; omega
            · clear ha
              go_wp2_with fail
              refine (hA.out _).mono ?_
              rintro e w1 ⟨rfl, rfl⟩
              go_wp2
              go_roundw
              case rel => obtain ⟨f', h5, h6⟩ := HE.out; exact ⟨n + 1, f', rfl, by omega, h5, trivial, Lib.hid h6⟩
              case measure => simp only [leftTo]; omega
          · have ha' : (alphaB l[n].toNat || digB l[n].toNat) = false := by simpa using ha
            have ha1 : alphaB l[n].toNat = false := by revert ha'; cases alphaB l[n].toNat <;> simp
            have ha2 : digB l[n].toNat = false := by revert ha'; cases alphaB l[n].toNat <;> simp
            rw [ha1] at hA
            rw [ha2] at hD
            by_cases hsl : n + 2 < l.length
            · have hse := sep_eq hsl
              have hsl1 : n + 1 < l.length := by omega
              have hsn1 : n + 1 < s.size := by rw [Hsz.out]; exact hsl1
              have hsn2 : n + 2 < s.size := by rw [Hsz.out]; exact hsl
              have en1 := HB.out (n + 1) hsn1 hsl1
              have en2 := HB.out (n + 2) hsn2 hsl
              have hA2 := Lib.hid (fun w => HA.out l[n + 2].toNat w)
              have HT : Hid (sepAt l n = true → ∃ f', l.length ≤ n + 3 + f' ∧ R = wordR l f' (n + 3)) := Lib.hid (fun hs => by rw [hR.out]; exact wordR_sep hc hf ha' hs)
              have HS : Hid (sepAt l n = false → R = n) := Lib.hid (fun hs => by rw [hR.out, wordR_stop hc ha' hs])
              obtain ⟨m, hm⟩ : ∃ m, m = n + 2 := ⟨_, rfl⟩
              obtain ⟨p, hp⟩ : ∃ p, p = n + 1 := ⟨_, rfl⟩
              have hm' : (n : Int) + 2 = (m : Int) := by omega
              have hp' : (n : Int) + 1 = (p : Int) := by omega
              have hsm : m < s.size := by omega
              have hsp : p < s.size := by omega
              have hcm : (m : Int) < (s.size : Int) := by omega
              have hcp : (p : Int) < (s.size : Int) := by omega
              have bm : (m : Int) ≤ 9223372036854775807 := by omega
              have bp : (p : Int) ≤ 9223372036854775807 := by omega
              have enm : s[m] = l[n + 2] := by subst hm; exact en2
              have enp : s[p] = l[n + 1] := by subst hp; exact en1
              have Hn2 := Lib.hid hsl
              clear hR HA HD HB ha ha' ha1 ha2 en1 en2
              generalize alphaB l[n + 2].toNat = a2 at *
              generalize l[n + 2] = x2 at *
              generalize l[n + 1] = x1 at *
              generalize l[n] = x0 at *
              clear hsl hsl1 hc hsn1 hsn2 hm hp b1 c1 b2 c2
              by_cases h58 : x0 = 58
              · have t0 : ((x0.toNat : Int) == 58) = true := by rw [h58]; rfl
                by_cases h59 : x1 = 58
                · have t1 : ((x1.toNat : Int) == 58) = true := by rw [h59]; rfl
                  rw [h58, h59] at hse
                  cases a2
                  · have E : Hid (R = n) := Lib.hid (HS.out (by rw [hse]; rfl))
                    clear hse h58 h59 HT HS
                    go_wp2_with fail
                    refine (hA.out _).mono ?_
                    rintro e w1 ⟨rfl, rfl⟩
                    go_wp2_with fail
                    refine (hD.out _).mono ?_
                    rintro e w1 ⟨rfl, rfl⟩
                    go_wp2_with fail
                    refine (hA2.out _).mono ?_
                    rintro e w1 ⟨rfl, rfl⟩
                    go_wp2
                    go_ret
                    exact ⟨by rw [E.out]; rfl, rfl⟩
                  · have HE := Lib.hid (HT.out (by rw [hse]; rfl))
                    clear hse h58 h59 HT HS
                    go_wp2_with fail
                    refine (hA.out _).mono ?_
                    rintro e w1 ⟨rfl, rfl⟩
                    go_wp2_with fail
                    refine (hD.out _).mono ?_
                    rintro e w1 ⟨rfl, rfl⟩
                    go_wp2_with fail
                    refine (hA2.out _).mono ?_
                    rintro e w1 ⟨rfl, rfl⟩
                    go_wp2
                    go_roundw
                    case rel => obtain ⟨f', h5, h6⟩ := HE.out; have := Hn2.out; exact ⟨n + 3, f', rfl, by omega, h5, trivial, Lib.hid h6⟩
                    case measure => have := Hn2.out; simp only [leftTo]; omega
                · have t1 : ((x1.toNat : Int) == 58) = false := by
                    simp only [beq_eq_false_iff_ne, ne_eq]
                    intro h
                    exact h59 (UInt8.toNat_inj.1 (by simpa using Int.ofNat.inj h))
                  have E : Hid (R = n) := Lib.hid (HS.out (by rw [hse]; simp [h59]))
                  clear hse h58 h59 HT HS hA2
                  go_wp2_with fail
                  refine (hA.out _).mono ?_
                  rintro e w1 ⟨rfl, rfl⟩
                  go_wp2_with fail
                  refine (hD.out _).mono ?_
                  rintro e w1 ⟨rfl, rfl⟩
                  go_wp2
                  go_ret
                  exact ⟨by rw [E.out]; rfl, rfl⟩
              · have t0 : ((x0.toNat : Int) == 58) = false := by
                  simp only [beq_eq_false_iff_ne, ne_eq]
                  intro h
                  exact h58 (UInt8.toNat_inj.1 (by simpa using Int.ofNat.inj h))
                have E : Hid (R = n) := Lib.hid (HS.out (by rw [hse]; simp [h58]))
                clear hse h58 HT HS hA2
                go_wp2_with fail
                refine (hA.out _).mono ?_
                rintro e w1 ⟨rfl, rfl⟩
                go_wp2_with fail
                refine (hD.out _).mono ?_
                rintro e w1 ⟨rfl, rfl⟩
                go_wp2
                go_ret
                exact ⟨by rw [E.out]; rfl, rfl⟩
            · have hs' := sep_short hsl
              have E : Hid (R = n) := Lib.hid (by rw [hR.out, wordR_stop hc ha' hs'])
              have hc2 : decide ((n : Int) + 2 < (s.size : Int)) = false := by rw [Hsz.out]; simp; omega
              clear hR HA HD HB ha ha' ha1 ha2 hs' hsl
              go_wp2_with fail
              refine (hA.out _).mono ?_
              rintro e w1 ⟨rfl, rfl⟩
              go_wp2_with fail
              refine (hD.out _).mono ?_
              rintro e w1 ⟨rfl, rfl⟩
              go_wp2
              go_ret
              exact ⟨by rw [E.out]; rfl, rfl⟩
        · have hc' : ¬ (n : Int) < (s.size : Int) := by rw [Hsz.out]; omega
          have E : Hid (R = n) := Lib.hid (by rw [hR.out, wordR_end (by omega)])
          clear hR HA HD HB
          go_wp2
          go_ret
          exact ⟨by rw [E.out]; rfl, rfl⟩
    · have hsz1 : 0 < s.size := by omega
      have e0 := hb 0 hsz1 h1
      have ha' : alphaB l[0].toNat = false := by simpa using ha
      rw [← hl, wordN_no h1 ha']
      have hA := Lib.hid (fun w => HA.out l[0].toNat w)
      rw [ha'] at hA
      clear HA HD HB hb ha hsz hl
      go_enter Tryd.func18, Tryd.ntmps18
      go_wp2_with fail
      refine (hA.out _).mono ?_
      rintro e w1 ⟨rfl, rfl⟩
      go_wp2
      go_ret
      exact ⟨rfl, rfl⟩
end Go.Proofs.YtaoehbnjipegoaaDoor
