/- The law on lists of tokens. -/
import Derived.Test.YtaoehbnjipegoaaDoorLSames
namespace Go.Proofs.YtaoehbnjipegoaaDoor
open Go.RowKit Go.Shelf
variable {k l : List Tok} {n : Nat}
def sameL (k l : List Tok) : Bool := k.length == l.length && alikeN k l == k.length
theorem sameT_refl (t : Tok) : sameT t t = true := by simp [sameT]
theorem alikeN_refl : ∀ k : List Tok, alikeN k k = k.length
  | [] => rfl
  | t :: k => by rw [alikeN, if_pos (sameT_refl t), alikeN_refl k]; rfl
theorem sameL_refl (k : List Tok) : sameL k k = true := by simp [sameL, alikeN_refl]
set_option maxRecDepth 100000 in
set_option maxHeartbeats 2000000 in
theorem Same_p {a b : Value} (w : World) (hk : TksIs w a k) (hl : TksIs w b l) (hkl : k.length ≤ 9223372036854775807) : Calls Tryd.prog 11 #[a, b] w fun e w' => e = .returned (.bool (sameL k l)) ∧ Gr w w' := by
  have HA := Lib.hid (alike_p w hk hl hkl)
  obtain ⟨a1, cap1, rfl, _⟩ := hk
  obtain ⟨a2, cap2, rfl, _⟩ := hl
  by_cases he : k.length = l.length
  · have t0 : ((k.length : Int) == (l.length : Int)) = true := by rw [he]; simp
    by_cases hn : alikeN k l = k.length
    · have E : sameL k l = true := by unfold sameL; rw [hn]; simp [he]
      have t1 : ((alikeN k l : Int) == (k.length : Int)) = true := by rw [hn]; simp
      rw [E]
      generalize alikeN k l = n at *
      clear E he hn
      go_enter Tryd.func11, Tryd.ntmps11
      go_wp2_with fail
      refine HA.out.mono ?_
      rintro e w2 ⟨rfl, g⟩
      go_wp2
      go_ret
      exact ⟨rfl, g⟩
    · have E : sameL k l = false := by
        have : (alikeN k l == k.length) = false := by simpa using hn
        unfold sameL; rw [this]; simp
      have t1 : ((alikeN k l : Int) == (k.length : Int)) = false := by simp; omega
      rw [E]
      generalize alikeN k l = n at *
      clear E he hn
      go_enter Tryd.func11, Tryd.ntmps11
      go_wp2_with fail
      refine HA.out.mono ?_
      rintro e w2 ⟨rfl, g⟩
      go_wp2
      go_ret
      exact ⟨rfl, g⟩
  · have t0 : ((k.length : Int) == (l.length : Int)) = false := by simp; omega
    have E : sameL k l = false := by
      have : (k.length == l.length) = false := by simpa using he
      unfold sameL; rw [this]; simp
    rw [E]
    clear E he HA
    go_enter Tryd.func11, Tryd.ntmps11
    go_wp2
    go_ret
    exact ⟨rfl, Gr.refl w⟩
set_option maxRecDepth 100000 in
set_option maxHeartbeats 2000000 in
theorem Same_r {a b : Value} (w : World) (hk : TksIs w a k) (hl : TksIs w b l) (hkl : k.length ≤ 9223372036854775807) : Calls Tryd.prog 12 #[a, b] w fun e w' => e = .returned (.bool (sameL k l)) ∧ Gr w w' := by
  obtain ⟨a1, cap1, rfl, hc1⟩ := hk
  obtain ⟨a2, cap2, rfl, hc2⟩ := hl
  by_cases he : k.length = l.length
  · have t0 : ((k.length : Int) != (l.length : Int)) = false := by rw [he]; simp
    have Hc1 := Lib.hid hc1
    have Hc2 := Lib.hid hc2
    have Hkl := Lib.hid hkl
    have He := Lib.hid he
    clear hc1 hc2 hkl
    have HR : Hid (alikeN k l = 0 + alikeN (k.drop 0) (l.drop 0)) := Lib.hid (by simp)
    have HQ : Hid (sameL k l = (alikeN k l == k.length)) := Lib.hid (by unfold sameL; simp [he])
    generalize alikeN k l = R at *
    generalize sameL k l = A at *
    have HS := Lib.hid (fun t u w => tokSame_r t u w)
    clear he
    go_enter Tryd.func12, Tryd.ntmps12
    go_wp2_with fail
    clear t0
    go_loopw [5] (fun nv wr => ∃ n : Nat, nv = .int .i64 (n : Int) ∧ n ≤ k.length ∧ Gr w wr ∧ Hid (R = n + alikeN (k.drop n) (l.drop n))) (fun nv _ => leftTo k.length nv)
    case atStart => exact ⟨0, rfl, Nat.zero_le _, Gr.refl w, HR⟩
    case round =>
      obtain ⟨n, rfl, hn, hg, hR⟩ := hrel
      have Hg := Lib.hid hg
      clear hg HR
      by_cases h1 : n < k.length
      · have h2 : n < l.length := by have := He.out; omega
        obtain ⟨b1, o1, rfl, hb1, x0, x1, x2, x3, x4, x5⟩ := Hc1.out n h1
        obtain ⟨b2, o2, rfl, hb2, y0, y1, y2, y3, y4, y5⟩ := Hc2.out n h2
        rw [← cell_gr Hg.out hb1] at x0 x1 x2 x3 x4 x5
        rw [← cell_gr Hg.out hb2] at y0 y1 y2 y3 y4 y5
        have i1 : (n : Int) < (k.length : Int) := by omega
        have i2 : (n : Int) < (l.length : Int) := by omega
        have hS := Lib.hid (fun w => HS.out k[n] l[n] w)
        have Hon := Lib.hid (fun hs => alikeN_on h1 h2 hs)
        have Hoff := Lib.hid (fun hs => alikeN_off h1 h2 hs)
        rw [show Tok.val k[n] = .agg #[.int .i64 k[n].kind, .int .i64 k[n].place, .string k[n].text, .string k[n].repl, .string k[n].more, .int .i64 k[n].opn] from rfl, show Tok.val l[n] = .agg #[.int .i64 l[n].kind, .int .i64 l[n].place, .string l[n].text, .string l[n].repl, .string l[n].more, .int .i64 l[n].opn] from rfl] at hS
        have Hn1 : Hid (n < k.length ∧ n ≤ 9223372036854775807) := Lib.hid (by have := Hkl.out; omega)
        have b1' : (n : Int) + 1 ≤ 9223372036854775807 := by have := Hkl.out; omega
        have b2' : -9223372036854775808 ≤ (n : Int) + 1 := by omega
        generalize sameT k[n] l[n] = same at *
        generalize k[n] = t at *
        generalize l[n] = u at *
        clear HS Hc1 Hc2 h1 h2 hn hb1 hb2
        cases same
        · have E : Hid (A = false) := Lib.hid (by
            have h3 : R = n := by rw [hR.out, Hoff.out rfl]; omega
            have := Hn1.out
            rw [HQ.out, h3]
            simp; omega)
          clear Hon Hoff hR
          go_wp2_with fail
          go_still_tail 8, (by kernel_rfl)
          change wpList _ _ _ _ _ wr.drew
          generalize hW2 : wr.drew = w2
          have G2 := Lib.hid (by rw [← hW2]; exact Hg.out.drew : Gr w w2)
          clear hW2 x0 x1 x2 x3 x4 x5 y0 y1 y2 y3 y4 y5
          go_wp2_with fail
          refine (hS.out _).mono ?_
          rintro e9 w9 ⟨rfl, g9⟩
          have G9 := Lib.hid (G2.out.trans g9)
          clear g9
          go_wp2_with fail
          go_ret
          rw [E.out]
          exact ⟨rfl, G9.out⟩
        · have HE := Lib.hid (Hon.out rfl)
          clear Hon Hoff
          go_wp2_with fail
          go_still_tail 8, (by kernel_rfl)
          change wpList _ _ _ _ _ wr.drew
          generalize hW2 : wr.drew = w2
          have G2 := Lib.hid (by rw [← hW2]; exact Hg.out.drew : Gr w w2)
          clear hW2 x0 x1 x2 x3 x4 x5 y0 y1 y2 y3 y4 y5
          go_wp2_with fail
          refine (hS.out _).mono ?_
          rintro e9 w9 ⟨rfl, g9⟩
          have G9 := Lib.hid (G2.out.trans g9)
          clear g9
          go_wp2_with fail
          go_roundw
          case rel => have := Hn1.out; exact ⟨n + 1, rfl, by omega, G9.out, Lib.hid (by rw [hR.out, HE.out]; omega)⟩
          case measure => have := Hn1.out; simp only [leftTo]; omega
      · have i1 : decide ((n : Int) < (k.length : Int)) = false := by simp; omega
        have i3 : decide (n < k.length) = false := by simpa using h1
        have E : Hid (A = true) := Lib.hid (by
          have h3 : R = n := by rw [hR.out, alikeN_end1 h1]; omega
          rw [HQ.out, h3]
          simp; omega)
        clear hR HS Hc1 Hc2 h1 hn
        go_wp2_with fail
        go_ret
        rw [E.out]
        exact ⟨rfl, Hg.out⟩
  · have t0 : ((k.length : Int) != (l.length : Int)) = true := by simp; omega
    have E : sameL k l = false := by
      have : (k.length == l.length) = false := by simpa using he
      unfold sameL; rw [this]; simp
    rw [E]
    clear E he hc1 hc2
    go_enter Tryd.func12, Tryd.ntmps12
    go_wp2
    go_ret
    exact ⟨rfl, Gr.refl w⟩
set_option maxRecDepth 100000 in
theorem law_sames {a b : Value} (w : World) (hk : TksIs w a k) (hl : TksIs w b l) (hkl : k.length ≤ 9223372036854775807) : Calls Tryd.prog 4 #[a, b] w fun e w' => e = .returned (.bool true) ∧ Gr w w' := by
  have HK := Lib.hid (fun w => known_l w)
  have H1 := Lib.hid (Same_p w hk hl hkl)
  have H2 := Lib.hid (fun w' (g : Gr w w') => Same_r w' (hk.gr g) (hl.gr g) hkl)
  have H3 := Lib.hid (fun w' (g : Gr w w') => Same_p w' (hk.gr g) (hk.gr g) hkl)
  have tb : (sameL k l == sameL k l) = true := by simp
  rw [sameL_refl] at H3
  generalize sameL k l = s at *
  clear hk hl
  go_enter Tryd.func4, Tryd.ntmps4
  go_wp2_with fail
  refine H1.out.mono ?_
  rintro e w1 ⟨rfl, g1⟩
  have G1 := Lib.hid g1
  clear g1
  go_wp2_with fail
  refine (H2.out _ G1.out).mono ?_
  rintro e w2 ⟨rfl, g2⟩
  have G2 := Lib.hid (G1.out.trans g2)
  clear g2
  go_wp2_with fail
  refine (H3.out _ G2.out).mono ?_
  rintro e w3 ⟨rfl, g3⟩
  have G3 := Lib.hid (G2.out.trans g3)
  clear g3
  go_wp2_with fail
  refine (HK.out _).mono ?_
  rintro e w4 ⟨rfl, g4⟩
  go_wp2
  go_ret
  exact ⟨rfl, G3.out.trans g4⟩
end Go.Proofs.YtaoehbnjipegoaaDoor
