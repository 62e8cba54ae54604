/- SameTexts; the walk of NumRanges. -/
import Derived.Test.YthdchkjipafmfaaDoorRngR
import Derived.Test.YthdchkjipafmfaaDoorRngN
namespace Go.Proofs.YthdchkjipafmfaaDoor
open Go.RowKit Go.Shelf
theorem same_zero (v1 v2 : Value) (B1 B2 : Nat) (w : World) (xs1 xs2 : List Value) (h1 : w.ownsRow B1 9 1 v1 0 xs1) (h2 : w.ownsRow B2 9 1 v2 0 xs2) :
    Calls Tryd.prog 38 #[v1, v2] w fun e w' => e = .returned (.bool true) ∧ Gr w w' := by
  obtain ⟨ao1, cap1, rfl⟩ := ownsRow_shape h1
  obtain ⟨ao2, cap2, rfl⟩ := ownsRow_shape h2
  clear h1 h2
  go_enter Tryd.func38, Tryd.ntmps38
  go_wp2_with fail
  go_loop [5] (fun i => i = .int .i64 0) (fun _ => 0)
  case atStart => rfl
  case round =>
    obtain rfl := hrel
    go_wp2
    go_ret
    exact ⟨rfl, Gr.refl w⟩
set_option maxRecDepth 100000 in
set_option maxHeartbeats 1000000 in
theorem same_some (xs : List (List UInt8)) (g1 g2 cap1 cap2 : Nat) (B1 B2 : Nat) (w : World) (hn : xs.length ≤ maxLen)
    (h1 : w.ownsRow B1 9 1 (.slice (some ⟨g1, 0, none⟩) xs.length cap1) xs.length (xs.map strV)) (h2 : w.ownsRow B2 9 1 (.slice (some ⟨g2, 0, none⟩) xs.length cap2) xs.length (xs.map strV)) :
    Calls Tryd.prog 38 #[.slice (some ⟨g1, 0, none⟩) xs.length cap1, .slice (some ⟨g2, 0, none⟩) xs.length cap2] w fun e w' => e = .returned (.bool true) ∧ Gr w w' := by
  have hc : Hid (∀ (w : World) (g cap B : Nat), w.ownsRow B 9 1 (.slice (some ⟨g, 0, none⟩) xs.length cap) xs.length (xs.map strV) → ∀ k, k < xs.length → w.cell? ⟨g, k, none⟩ = some (strV (xs.getD k []))) := Lib.hid (by
    intro w g cap B h k hk
    have := h.cells (g := g) rfl k (strV (xs.getD k [])) (by rw [List.getElem?_map, List.getElem?_eq_getElem hk, List.getD_eq_getElem?_getD, List.getElem?_eq_getElem hk]; rfl)
    rwa [WideShapes.add_plain, Nat.zero_add] at this)
  have hm : xs.length ≤ 9223372036854775807 := by unfold maxLen at hn; omega
  have H1 := Lib.hid h1
  have H2 := Lib.hid h2
  have HX : Hid (∀ k, ∃ x, x = xs.getD k []) := Lib.hid fun k => ⟨_, rfl⟩
  clear h1 h2 hn
  generalize hN : xs.length = n at *
  clear hN
  go_enter Tryd.func38, Tryd.ntmps38
  go_wp2_with fail
  go_loopw [5] (fun i wr => ∃ k : Nat, k ≤ n ∧ i = .int .i64 k ∧ Hid (wr.ownsRow B1 9 1 (.slice (some ⟨g1, 0, none⟩) n cap1) n (xs.map strV)) ∧ Hid (wr.ownsRow B2 9 1 (.slice (some ⟨g2, 0, none⟩) n cap2) n (xs.map strV)) ∧ Gr w wr) (fun i _ => n - (intOf i).toNat)
  case atStart => exact ⟨0, Nat.zero_le _, rfl, H1, H2, Gr.refl w⟩
  case round =>
    obtain ⟨k, hk, rfl, K1, K2, hg⟩ := hrel
    by_cases hlt : k < n
    · obtain ⟨x, hx⟩ := HX.out k
      have c1 := hc.out wr g1 cap1 B1 K1.out k hlt
      have c2 := hc.out wr g2 cap2 B2 K2.out k hlt
      rw [← hx] at c1 c2
      unfold strV at c1 c2
      clear hx
      go_wp2_with fail
      go_quiet (fail)
      go_wp2
      go_roundw
      case rel => exact ⟨k + 1, by omega, by go_num, Lib.hid (ownsRow_gr K1.out ((Gr.refl wr).drewN _)), Lib.hid (ownsRow_gr K2.out ((Gr.refl wr).drewN _)), hg.drewN _⟩
      case measure => simp [intOf]; omega
    · go_wp2
      go_ret
      exact ⟨rfl, hg⟩
theorem same_any (xs : List (List UInt8)) (v1 v2 : Value) (B1 B2 : Nat) (w : World) (h1 : w.ownsRow B1 9 1 v1 xs.length (xs.map strV)) (h2 : w.ownsRow B2 9 1 v2 xs.length (xs.map strV)) :
    Calls Tryd.prog 38 #[v1, v2] w fun e w' => e = .returned (.bool true) ∧ Gr w w' := by
  by_cases hz : xs.length = 0
  · rw [hz] at h1 h2
    exact same_zero v1 v2 B1 B2 w _ _ h1 h2
  · have k1 := h1
    have k2 := h2
    rcases h1.2 with ⟨_, e⟩ | ⟨g1, cap1, cur1, rfl, _, _, e3, e4, _⟩
    · exact absurd e hz
    rcases h2.2 with ⟨_, e⟩ | ⟨g2, cap2, cur2, rfl, _⟩
    · exact absurd e hz
    exact same_some xs g1 g2 cap1 cap2 B1 B2 w (Nat.le_trans e3 e4) k1 k2
theorem law_ranges (f t : ByteArray) (hf : f.size ≤ 140737488351232) (ht : t.size ≤ 140737488351232) (w : World) (hT : Tab w) :
    Calls Tryd.prog 10 #[.string f, .string t] w fun e w' => e = .returned (.bool true) ∧ Gr w w' := by
  by_cases hl : 16384 < f.size
  · clear hT
    go_enter Tryd.func10, Tryd.ntmps10
    go_wp2_with (first | (go_at_call 15; refine (long_any _ _ (by omega)).mono ?_; rintro e w' ⟨rfl, rfl⟩) | (go_at_call 16; refine (known_any _).mono ?_; rintro e w' ⟨rfl, hg⟩))
    go_ret
    exact ⟨rfl, hg⟩
  by_cases hm : 16384 < t.size
  · clear hT
    go_enter Tryd.func10, Tryd.ntmps10
    go_wp2_with (first | (go_at_call 15; refine (long_any _ _ (by omega)).mono ?_; rintro e w' ⟨rfl, rfl⟩) | (go_at_call 16; refine (known_any _).mono ?_; rintro e w' ⟨rfl, hg⟩))
    go_ret
    exact ⟨rfl, hg⟩
  have H1 := Lib.hid (fun w => refRange_any f t w hf ht)
  have H2 := Lib.hid (fun w hT => range_any f t w hf ht hT)
  have HT := Lib.hid hT
  clear hT
  generalize rgAll f.data.toList t.data.toList = R at *
  unfold RngPost at H1 H2
  generalize rgE R = E at *
  go_enter Tryd.func10, Tryd.ntmps10
  go_wp2_with (first | (go_at_call 15; refine (long_any _ _ (by omega)).mono ?_; rintro e w' ⟨rfl, rfl⟩))
  refine (H1.out _).mono ?_
  rintro e w1 ⟨v1, rfl, o1, g1⟩
  have O1 := Lib.hid o1
  have HT1 : Hid (Tab w1) := Lib.hid (HT.out.on g1)
  clear o1
  go_wp2_with fail
  refine (H2.out _ HT1.out).mono ?_
  rintro e w2 ⟨v2, rfl, o2, g2⟩
  have O2 := Lib.hid o2
  clear o2
  go_wp2_with fail
  refine (same_any (rgX R) v2 v1 _ _ w2 O2.out (ownsRow_gr O1.out g2)).mono ?_
  rintro e w3 ⟨rfl, g3⟩
  go_wp2_with fail
  refine (known_any _).mono ?_
  rintro e w4 ⟨rfl, g4⟩
  go_wp2
  go_ret
  exact ⟨rfl, ((g1.trans g2).trans g3).trans g4⟩
end Go.Proofs.YthdchkjipafmfaaDoor
