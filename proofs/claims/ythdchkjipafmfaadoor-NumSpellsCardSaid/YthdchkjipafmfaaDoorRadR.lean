/- Reading a text of digits in a base: the reference's digits, for every text. -/
import Derived.Test.YthdchkjipafmfaaDoorScan
namespace Go.Proofs.YthdchkjipafmfaaDoor
open Go.RowKit Go.Shelf
/-- what digits gives of S -/
def DigPost (S : Option Int) (w : World) (e : Ending) (w' : World) : Prop := ∃ x t, e = .returned (.tuple #[.int .i64 x, .bool t]) ∧ (match S with | some v => x = v ∧ t = true | none => t = false) ∧ Gr w w'
theorem dig_none {S : Option Int} {w w' : World} (h : none = S) (hg : Gr w w') (x : Int) : DigPost S w (.returned (.tuple #[.int .i64 x, .bool false])) w' := ⟨x, false, rfl, by rw [← h], hg⟩
set_option maxHeartbeats 2000000 in
theorem digits_any (s : ByteArray) (base : Int) (lead : Bool) (hb : 2 ≤ base ∧ base ≤ 16) (hl : 0 < s.size ∨ lead = true) (w : World) (hs : s.size ≤ 140737488351232) :
    Calls Tryd.prog 68 #[.string s, .int .i64 base, .bool lead] w (DigPost (scan base s.data.toList 0 lead) w) := by
  generalize hS : scan base s.data.toList 0 lead = S
  have HS := Lib.hid hS
  have HL := Lib.hid hl
  clear hS hl
  go_enter Tryd.func68, Tryd.ntmps68
  go_wp2_with fail
  go_loop [8, 9, 10] (fun n b i => ∃ k : Nat, k ≤ s.size ∧ i = .int .i64 k ∧ ∃ m : Int, 0 ≤ m ∧ m ≤ 144115188075855872 ∧ n = .int .i64 m ∧ ∃ c : Bool, b = .bool c ∧ Hid ((m ≤ 9007199254740992 → scan base (s.data.toList.drop k) m c = S) ∧ (9007199254740992 < m → none = S) ∧ (c = false → k < s.size))) (fun _ _ i => s.size - (intOf i).toNat)
  case atStart => exact ⟨0, Nat.zero_le _, rfl, 0, Int.le_refl _, by decide, rfl, lead, rfl, Lib.hid ⟨fun _ => HS.out, fun h => absurd h (by decide), fun h => HL.out.resolve_right (by rw [h]; decide)⟩⟩
  case round =>
    obtain ⟨k, hk, rfl, n, hn0, hn, rfl, b, rfl, Hb⟩ := hrel
    clear HS HL
    by_cases hlt : k < s.size
    · have Hd : Hid (s.data.toList.drop k = s[k] :: s.data.toList.drop (k + 1)) := Lib.hid (drop_at s k hlt)
      have hV := Lib.hid (fun c w => value_any c base hb w)
      by_cases h95 : ((s[k].toNat : Int) == 95) = true
      · cases b
        · have HN : Hid (none = S) := Lib.hid (by
            by_cases hm : n ≤ 9007199254740992
            · rw [← Hb.out.1 hm, Hd.out, scan_bad (.inr rfl) (by rw [show (s[k].toNat : Int) = 95 by simpa using h95, digV_95]; exact hb.2)]
            · exact Hb.out.2.1 (by omega))
          clear Hb Hd
          go_wp2_with fail
          go_ret2
          exact dig_none HN.out (Gr.refl w) _
        · by_cases hend : k + 1 < s.size
          · have hke : (((k : Int) + 1) == (s.size : Int)) = false := by simp; omega
            have Hd2 : Hid (s.data.toList.drop (k + 1) = s[k + 1] :: s.data.toList.drop (k + 1 + 1)) := Lib.hid (drop_at s (k + 1) hend)
            by_cases hv : base ≤ digV (s[k + 1].toNat : Int)
            · have HN : Hid (none = S) := Lib.hid (by
                by_cases hm : n ≤ 9007199254740992
                · rw [← Hb.out.1 hm, Hd.out, scan_skip h95, Hd2.out, scan_bad (.inr rfl) hv]
                · exact Hb.out.2.1 (by omega))
              have hz : valZ base (s[k + 1].toNat : Int) = -1 := if_pos hv
              have hV1 := Lib.hid (fun w => hV.out s[k + 1] w)
              rw [hz] at hV1
              clear Hb Hd Hd2 hV hz hv
              go_wp2_with (go_at_call 111; refine (hV1.out _).mono ?_; rintro e w' ⟨rfl, rfl⟩)
              go_ret2
              exact dig_none HN.out (Gr.refl w) _
            · have hz : valZ base (s[k + 1].toNat : Int) = digV (s[k + 1].toNat : Int) := if_neg hv
              have hV1 := Lib.hid (fun w => hV.out s[k + 1] w)
              rw [hz] at hV1
              have hvb := digV_bd (s[k + 1].toNat : Int)
              have HR : Hid ((n ≤ 9007199254740992 → scan base (s.data.toList.drop (k + 1)) n false = S) ∧ (9007199254740992 < n → none = S) ∧ (false = false → k + 1 < s.size)) := Lib.hid ⟨fun h => by rw [← Hb.out.1 h, Hd.out, scan_skip h95], Hb.out.2.1, fun _ => hend⟩
              clear Hb Hd Hd2 hV hz hv
              generalize digV (s[k + 1].toNat : Int) = v at *
              go_wp2_with (go_at_call 111; refine (hV1.out _).mono ?_; rintro e w' ⟨rfl, rfl⟩)
              go_round
              case rel => exact ⟨k + 1, by omega, by go_num, n, hn0, hn, rfl, false, rfl, Lib.hid ⟨HR.out.1, HR.out.2.1, fun _ => hend⟩⟩
              case measure => simp [intOf]; omega
          · have HN : Hid (none = S) := Lib.hid (by
              by_cases hm : n ≤ 9007199254740992
              · rw [← Hb.out.1 hm, Hd.out, scan_skip h95, nil_at s (k + 1) (by omega), scan_nil']
              · exact Hb.out.2.1 (by omega))
            have hke : (((k : Int) + 1) == (s.size : Int)) = true := by simp; omega
            clear Hb Hd hV
            go_wp2_with fail
            go_ret2
            exact dig_none HN.out (Gr.refl w) _
      · have h95' : ((s[k].toNat : Int) == 95) = false := by simpa using h95
        clear h95
        by_cases hv : base ≤ digV (s[k].toNat : Int)
        · have HN : Hid (none = S) := Lib.hid (by
            by_cases hm : n ≤ 9007199254740992
            · rw [← Hb.out.1 hm, Hd.out, scan_bad (.inl h95') hv]
            · exact Hb.out.2.1 (by omega))
          have hz : valZ base (s[k].toNat : Int) = -1 := if_pos hv
          have hV1 := Lib.hid (fun w => hV.out s[k] w)
          rw [hz] at hV1
          clear Hb Hd hV hz hv
          go_wp2_with (go_at_call 111; refine (hV1.out _).mono ?_; rintro e w' ⟨rfl, rfl⟩)
          go_ret2
          exact dig_none HN.out (Gr.refl w) _
        · have hz : valZ base (s[k].toNat : Int) = digV (s[k].toNat : Int) := if_neg hv
          have hV1 := Lib.hid (fun w => hV.out s[k] w)
          rw [hz] at hV1
          have hvb := digV_bd (s[k].toNat : Int)
          have hmb := mul_bd hn0 hb
          have HR : Hid ((min (n * base + digV (s[k].toNat : Int)) 144115188075855872 ≤ 9007199254740992 → scan base (s.data.toList.drop (k + 1)) (min (n * base + digV (s[k].toNat : Int)) 144115188075855872) true = S) ∧ (9007199254740992 < min (n * base + digV (s[k].toNat : Int)) 144115188075855872 → none = S)) := Lib.hid ⟨fun h => by
              have hm : n ≤ 9007199254740992 := by omega
              rw [show min (n * base + digV (s[k].toNat : Int)) 144115188075855872 = n * base + digV (s[k].toNat : Int) by omega, ← Hb.out.1 hm, Hd.out, scan_on (.inl h95') hv (by omega)], fun h => by
              by_cases hm : n ≤ 9007199254740992
              · rw [← Hb.out.1 hm, Hd.out, scan_big (.inl h95') hv (by omega)]
              · exact Hb.out.2.1 (by omega)⟩
          clear Hb Hd hV hz hv
          generalize digV (s[k].toNat : Int) = v at *
          go_wp2_with (go_at_call 111; refine (hV1.out _).mono ?_; rintro e w' ⟨rfl, rfl⟩)
          go_round
          case rel => exact ⟨k + 1, by omega, by go_num, min (n * base + v) 144115188075855872, by omega, by omega, rfl, true, rfl, Lib.hid ⟨HR.out.1, HR.out.2, fun h => by cases h⟩⟩
          case measure => simp [intOf]; omega
    · obtain rfl : b = true := by
        cases b
        · exact absurd (Hb.out.2.2 rfl) hlt
        · rfl
      have Hn : Hid ((n ≤ 9007199254740992 → some n = S) ∧ (9007199254740992 < n → none = S)) := Lib.hid ⟨fun h => by rw [← Hb.out.1 h, nil_at s k (by omega), scan_nil], Hb.out.2.1⟩
      clear Hb
      by_cases hm : n ≤ 9007199254740992
      · go_wp2
        go_ret2
        exact ⟨n, true, rfl, by rw [← Hn.out.1 hm]; exact ⟨rfl, rfl⟩, Gr.refl w⟩
      · go_wp2
        go_ret2
        exact ⟨n, false, rfl, by rw [← Hn.out.2 (by omega)], Gr.refl w⟩
end Go.Proofs.YthdchkjipafmfaaDoor
