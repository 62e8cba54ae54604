/- LTrm -/
import Derived.Test.YthmopindibdhnaaGreatDoorM32
import Derived.Test.YthmopindibdhnaaGreatDoorM23
namespace Go.Proofs.YthmopindibdhnaaGreatDoor.G
open Go.RowKit Go.Shelf Go.Maps
theorem ownB_cell {w : World} {base : Nat} {v : Value} {l : List Bool} (h : OwnB w base v l) : ∃ ao cap, v = .slice ao l.length cap ∧ ∀ (i : Nat) (hi : i < l.length), ∃ g off, ao = some ⟨g, off, none⟩ ∧ w.cell? ⟨g, off + i, none⟩ = some (.bool l[i]) := by
  by_cases hl : l = []
  · obtain ⟨ao, cap, hv⟩ := ownsRow_shape h
    exact ⟨ao, cap, hv, fun i hi => by rw [hl] at hi; exact absurd hi (Nat.not_lt_zero _)⟩
  · have hne : 0 < l.length := List.length_pos_iff.2 hl
    obtain ⟨g, cap, h1, h2, h3, h4, h5⟩ := own_cell h (by omega)
    exact ⟨_, cap, h1, fun i hi => ⟨g, 0, rfl, by rw [Nat.zero_add]; exact h5 i _ (by rw [List.getElem?_map, List.getElem?_eq_getElem hi]; rfl)⟩⟩
set_option maxRecDepth 100000 in
set_option maxHeartbeats 4000000 in
theorem law_terms (s : ByteArray) (_ : s.size ≤ 140737488351232) (w : World) (hFA : ∀ W, Gr w W → FieldsAt W) : Calls Tryz.prog 3 #[.string s] w fun e w' => e = .returned (.bool true) ∧ Gr w w' := by
  have HO := Lib.hid (fun w => over_l s w)
  have HK := Lib.hid (fun w => known_l w)
  have HR := Lib.hid (fun w => terms_r s w)
  have HP := Lib.hid (fun W (gW : Gr w W) => terms_g (s := s) W (fun W2 g => hFA W2 (gW.trans g)))
  have HE := Lib.hid (fun n => lexO_err (ref := false) (l := s.data.toList) (n := n))
  rw [lexO_two] at HR
  generalize lexO false s.data.toList = X at *
  clear hFA
  by_cases ho : 16000 < (s.size : Int)
  · have ho' : decide (16000 < (s.size : Int)) = true := by simpa using ho
    rw [ho'] at HO
    clear ho ho' HP HR HE
    go_enter Tryz.func3, Tryz.ntmps3
    go_wp2_with fail
    refine (HO.out _).mono ?_
    rintro e w1 ⟨rfl, rfl⟩
    go_wp2_with fail
    refine (HK.out _).mono ?_
    rintro e w2 ⟨rfl, g⟩
    go_wp2
    go_ret
    exact ⟨rfl, g⟩
  · have ho' : decide (16000 < (s.size : Int)) = false := by simpa using ho
    rw [ho'] at HO
    clear ho ho'
    cases X with
    | error n =>
      clear HE
      go_enter Tryz.func3, Tryz.ntmps3
      go_wp2_with fail
      refine (HO.out _).mono ?_
      rintro e w1 ⟨rfl, rfl⟩
      go_wp2_with fail
      refine (HR.out _).mono ?_
      rintro e w2 ⟨rfl, g2⟩
      have G2 := Lib.hid g2
      clear g2
      go_wp2_with fail
      refine (HP.out _ G2.out).mono ?_
      rintro e w3 ⟨rfl, g3⟩
      have G3 := Lib.hid (G2.out.trans g3)
      clear g3
      go_wp2_with fail
      go_loopw [7] (fun iv wr => iv = .int .i64 0 ∧ w3 = wr) (fun _ _ => 0)
      case atStart => exact ⟨rfl, rfl⟩
      case round =>
        obtain ⟨rfl, rfl⟩ := hrel
        go_wp2_with fail
        refine (HK.out _).mono ?_
        rintro e w4 ⟨rfl, g⟩
        have G4 := Lib.hid (G3.out.trans g)
        clear g
        go_wp2
        go_ret
        exact ⟨rfl, G4.out⟩
    | ok r =>
      clear HE
      go_enter Tryz.func3, Tryz.ntmps3
      go_wp2_with fail
      refine (HO.out _).mono ?_
      rintro e w1 ⟨rfl, rfl⟩
      go_wp2_with fail
      refine (HR.out _).mono ?_
      rintro e w2 ⟨bv, rfl, o2, l2, g2⟩
      have G2 := Lib.hid g2
      have O2 := Lib.hid o2
      have L2 := Lib.hid l2
      clear g2 o2 l2
      go_wp2_with fail
      refine (HP.out _ G2.out).mono ?_
      rintro e w3 ⟨bw, rfl, o3, l3, g3⟩
      have G3 := Lib.hid (G2.out.trans g3)
      have O3 := Lib.hid o3
      have P3 := Lib.hid (ownsRow_gr O2.out g3)
      clear g3 o3 l3 O2
      obtain ⟨n, hn⟩ : ∃ n, n = r.2.reverse.length := ⟨_, rfl⟩
      have hn1 : n ≤ 1000 := by have := L2.out; rw [hn, List.length_reverse]; exact this
      obtain ⟨a3, k3, rfl, hc3⟩ := ownB_cell O3.out
      obtain ⟨a2, k2, rfl, hc2⟩ := ownB_cell P3.out
      have HC3 := Lib.hid hc3
      have HC2 := Lib.hid hc2
      have Hn := Lib.hid hn
      rw [← hn]
      clear hc2 hc3 hn O3 P3
      go_wp2_with fail
      go_loopw [7] (fun iv wr => ∃ i : Nat, iv = .int .i64 (i : Int) ∧ i ≤ n ∧ Gr w3 wr) (fun iv _ => leftTo n iv)
      case atStart => exact ⟨0, rfl, Nat.zero_le _, Gr.refl _⟩
      case round =>
        obtain ⟨i, rfl, hi, hg⟩ := hrel
        have Hg := Lib.hid hg
        clear hg
        by_cases hc : i < n
        · have hci : (i : Int) < (n : Int) := by omega
          obtain ⟨g3, o3, e3, k3c⟩ := HC3.out i (by rw [← Hn.out]; exact hc)
          obtain ⟨g2, o2, e2, k2c⟩ := HC2.out i (by rw [← Hn.out]; exact hc)
          subst e3
          subst e2
          have k3d := cell_keep Hg.out k3c
          have k2d := cell_keep Hg.out k2c
          clear k3c k2c
          generalize r.2.reverse[i]'(by rw [← Hn.out]; exact hc) = b at *
          have hi1 : (i : Int) + 1 ≤ 9223372036854775807 := by omega
          have hi2 : -9223372036854775808 ≤ (i : Int) + 1 := by omega
          have hbb : (b != b) = false := by cases b <;> rfl
          have Hc := Lib.hid hc
          clear hc
          go_wp2_with fail
          go_quiet (fail)
          go_wp2_with fail
          go_roundw
          case rel => exact ⟨i + 1, rfl, Hc.out, Hg.out.drewN _⟩
          case measure => simp [leftTo]; have := Hc.out; omega
        · have hci : decide ((i : Int) < (n : Int)) = false := by simp; omega
          have hci2 : ¬ (i : Int) < (n : Int) := by omega
          have hci3 : decide (i < n) = false := decide_eq_false hc
          go_wp2_with fail
          refine (HK.out _).mono ?_
          rintro e w4 ⟨rfl, g⟩
          have G4 := Lib.hid (G3.out.trans (Hg.out.trans g))
          clear g
          go_wp2
          go_ret
          exact ⟨rfl, G4.out⟩
end Go.Proofs.YthmopindibdhnaaGreatDoor.G
