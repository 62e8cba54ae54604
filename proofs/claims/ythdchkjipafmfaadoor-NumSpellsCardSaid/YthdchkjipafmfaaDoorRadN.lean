/- Reading a text of digits in a base: package num's valueOf, for every text. -/
import Derived.Test.YthdchkjipafmfaaDoorScan
namespace Go.Proofs.YthdchkjipafmfaaDoor
open Go.RowKit Go.Shelf
def optZ : Option Int → Int | some v => v | none => 0
def optB : Option Int → Bool | some _ => true | none => false
set_option maxHeartbeats 1000000 in
theorem valueOf_any (s : ByteArray) (base : Int) (hb : 2 ≤ base ∧ base ≤ 16) (w : World) (hs : s.size ≤ 140737488351232) :
    Calls Tryd.prog 70 #[.string s, .int .i64 base] w fun e w' => e = .returned (.tuple #[.int .i64 (optZ (scan base s.data.toList 0 false)), .bool (optB (scan base s.data.toList 0 false))]) ∧ Gr w w' := by
  generalize hS : scan base s.data.toList 0 false = S
  have HS := Lib.hid hS
  clear hS
  go_enter Tryd.func70, Tryd.ntmps70
  go_wp2_with fail
  go_loop [6, 7, 12] (fun n b i => ∃ k : Nat, k ≤ s.size ∧ i = .int .i64 k ∧ ∃ m : Int, 0 ≤ m ∧ m ≤ 9007199254740992 ∧ n = .int .i64 m ∧ ∃ c : Bool, b = .bool c ∧ Hid (scan base (s.data.toList.drop k) m c = S)) (fun _ _ i => s.size - (intOf i).toNat)
  case atStart => exact ⟨0, Nat.zero_le _, rfl, 0, Int.le_refl _, by decide, rfl, false, rfl, HS⟩
  case round =>
    obtain ⟨k, hk, rfl, n, hn0, hn, rfl, b, rfl, Hb⟩ := hrel
    clear HS
    by_cases hlt : k < s.size
    · have Hd : Hid (s.data.toList.drop k = s[k] :: s.data.toList.drop (k + 1)) := Lib.hid (drop_at s k hlt)
      by_cases h95 : (((s[k].toNat : Int) == 95) && b) = true
      · obtain ⟨h1, rfl⟩ : ((s[k].toNat : Int) == 95) = true ∧ b = true := by simpa using h95
        clear h95
        go_wp2_with fail
        go_round
        case rel => exact ⟨k + 1, by omega, by go_num, n, hn0, hn, rfl, false, rfl, Lib.hid (by rw [← Hb.out, Hd.out, scan_skip h1])⟩
        case measure => simp [intOf]; omega
      · have hno : Hid (((s[k].toNat : Int) == 95) = false ∨ b = false) := Lib.hid (by
          rcases hc : ((s[k].toNat : Int) == 95) with _ | _
          · exact .inl rfl
          · rw [hc] at h95; exact .inr (by simpa using h95))
        have hmb := mul_bd hn0 hb
        have hvb := digV_bd (s[k].toNat : Int)
        have hV : Hid (∃ v, v = digV (s[k].toNat : Int)) := Lib.hid ⟨_, rfl⟩
        have H1 : Hid (base ≤ digV (s[k].toNat : Int) → none = S) := Lib.hid (fun h => by rw [← Hb.out, Hd.out, scan_bad hno.out h])
        have H2 : Hid (¬ base ≤ digV (s[k].toNat : Int) → 9007199254740992 < n * base + digV (s[k].toNat : Int) → none = S) := Lib.hid (fun h g => by rw [← Hb.out, Hd.out, scan_big hno.out h g])
        have H3 : Hid (¬ base ≤ digV (s[k].toNat : Int) → ¬ 9007199254740992 < n * base + digV (s[k].toNat : Int) → scan base (s.data.toList.drop (k + 1)) (n * base + digV (s[k].toNat : Int)) true = S) := Lib.hid (fun h g => by rw [← Hb.out, Hd.out, scan_on hno.out h g])
        have hD := Lib.hid (digitOf_any s[k])
        clear hV Hb Hd hno
        generalize digV (s[k].toNat : Int) = v at *
        by_cases hv : base ≤ v
        · rcases hc : ((s[k].toNat : Int) == 95) with _ | _
          · go_wp2_with (go_at_call 113; refine (hD.out _).mono ?_; rintro e w' ⟨rfl, rfl⟩)
            go_ret2
            exact ⟨by rw [← H1.out hv]; rfl, Gr.refl w⟩
          · obtain rfl : b = false := by rw [hc] at h95; simpa using h95
            go_wp2_with (go_at_call 113; refine (hD.out _).mono ?_; rintro e w' ⟨rfl, rfl⟩)
            go_ret2
            exact ⟨by rw [← H1.out hv]; rfl, Gr.refl w⟩
        · by_cases hg : 9007199254740992 < n * base + v
          · rcases hc : ((s[k].toNat : Int) == 95) with _ | _
            · go_wp2_with (go_at_call 113; refine (hD.out _).mono ?_; rintro e w' ⟨rfl, rfl⟩)
              go_ret2
              exact ⟨by rw [← H2.out hv hg]; rfl, Gr.refl w⟩
            · obtain rfl : b = false := by rw [hc] at h95; simpa using h95
              go_wp2_with (go_at_call 113; refine (hD.out _).mono ?_; rintro e w' ⟨rfl, rfl⟩)
              go_ret2
              exact ⟨by rw [← H2.out hv hg]; rfl, Gr.refl w⟩
          · rcases hc : ((s[k].toNat : Int) == 95) with _ | _
            · go_wp2_with (go_at_call 113; refine (hD.out _).mono ?_; rintro e w' ⟨rfl, rfl⟩)
              go_round
              case rel => exact ⟨k + 1, by omega, by go_num, n * base + v, by omega, by omega, rfl, true, rfl, Lib.hid (H3.out hv hg)⟩
              case measure => simp [intOf]; omega
            · obtain rfl : b = false := by rw [hc] at h95; simpa using h95
              go_wp2_with (go_at_call 113; refine (hD.out _).mono ?_; rintro e w' ⟨rfl, rfl⟩)
              go_round
              case rel => exact ⟨k + 1, by omega, by go_num, n * base + v, by omega, by omega, rfl, true, rfl, Lib.hid (H3.out hv hg)⟩
              case measure => simp [intOf]; omega
    · have Hn : Hid (scan base [] n b = S) := Lib.hid (by rw [← Hb.out, nil_at s k (by omega)])
      clear Hb
      cases b
      · go_wp2
        go_ret2
        exact ⟨by rw [← Hn.out]; rfl, Gr.refl w⟩
      · go_wp2
        go_ret2
        exact ⟨by rw [← Hn.out]; rfl, Gr.refl w⟩
end Go.Proofs.YthdchkjipafmfaaDoor
