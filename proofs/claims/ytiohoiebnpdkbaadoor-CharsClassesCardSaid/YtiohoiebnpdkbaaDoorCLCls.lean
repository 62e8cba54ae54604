/- The law on classes. -/
import Derived.Test.YtiohoiebnpdkbaaDoorCClass
import Derived.Test.YtiohoiebnpdkbaaDoorCKnow
namespace Go.Proofs.YtiohoiebnpdkbaaDoor
open Go.RowKit Go.Shelf
set_option maxRecDepth 100000 in
set_option maxHeartbeats 1000000 in
theorem law_cls {s : ByteArray} {J : List (Int × Int)} {c : Int} {b : Bool} {E : Int} (hJ : J ≠ []) (hJl : J.length ≤ 100000)
    (hri : ∀ w, Calls Tryd.prog 8 #[.int .i64 c, .string s] w fun e w' => e = .returned (.tuple #[.bool b, .int .i64 E]) ∧ w = w')
    (hrs : ∀ w, Calls Tryd.prog 9 #[.string s] w (SpPost J w))
    (hpi : ∀ w, Calls Tryd.prog 10 #[.int .i64 c, .string s] w fun e w' => e = .returned (.tuple #[.bool b, .int .i64 E]) ∧ Gr w w')
    (hps : ∀ w, Calls Tryd.prog 11 #[.string s] w (SpPost J w)) (w : World) (hT : Tabs w) :
    Calls Tryd.prog 3 #[.int .i64 c, .string s] w fun e w' => e = .returned (.bool true) ∧ Gr w w' := by
  have HK := Lib.hid (fun w hT => known_any w hT)
  have HT := Lib.hid hT
  have HRi := Lib.hid hri
  have HRs := Lib.hid hrs
  have HPi := Lib.hid hpi
  have HPs := Lib.hid hps
  have HJ := Lib.hid hJ
  clear hri hrs hpi hps hT hJ
  go_enter Tryd.func3, Tryd.ntmps3
  go_wp2_with fail
  refine (HRi.out _).mono ?_
  rintro e w1 ⟨rfl, rfl⟩
  go_wp2_with fail
  refine (HRs.out _).mono ?_
  rintro e w2 ⟨vm, rfl, hm, g2⟩
  obtain ⟨gm, capm, rfl, _, hltm, hcm⟩ := OwnS.cells hm HJ.out
  have HCm := Lib.hid hcm
  have G2 := Lib.hid g2
  clear hm hcm g2 HRi HRs
  go_wp2_with fail
  refine (HPi.out _).mono ?_
  rintro e w3 ⟨rfl, g3⟩
  have G3 := Lib.hid g3
  clear g3
  go_wp2_with fail
  refine (HPs.out _).mono ?_
  rintro e w4 ⟨vl, rfl, hl, g4⟩
  obtain ⟨gl, capl, rfl, _, hltl, hcl⟩ := OwnS.cells hl HJ.out
  have HCl := Lib.hid hcl
  have G4 := Lib.hid (Gr.trans G3.out g4)
  clear hl hcl g4 G3 HPi HPs HJ
  go_wp2_with fail
  go_loopw [13] (fun sc wr => ∃ n : Nat, sc = .int .i64 (n : Int) ∧ n ≤ J.length ∧ Gr w4 wr) (fun sc _ => leftN J.length sc)
  case atStart => exact ⟨0, rfl, by omega, Gr.refl w4⟩
  case round =>
    obtain ⟨n, rfl, hn, hg⟩ := hrel
    have Hg := Lib.hid hg
    clear hg
    by_cases hc : n < J.length
    · obtain ⟨cl0, cl1⟩ := HCl.out wr (Hg.out.block _ hltl) n hc
      obtain ⟨cm0, cm1⟩ := HCm.out wr ((Gr.trans G4.out Hg.out).block _ hltm) n hc
      have hc' : (n : Int) < (J.length : Int) := by omega
      have hc1 : (n : Int) + 1 ≤ 9223372036854775807 := by omega
      have hc2 : -9223372036854775808 ≤ (n : Int) + 1 := by omega
      generalize J[n] = p at *
      obtain ⟨x, y⟩ := p
      simp only at cl0 cl1 cm0 cm1
      clear HCl HCm
      go_wp2_with fail
      go_quiet (fail)
      go_wp2_with fail
      go_roundw
      case rel => exact ⟨n + 1, rfl, by omega, Hg.out.drewN _⟩
      case measure => simp only [leftN]; omega
    · have hc' : ¬ (n : Int) < (J.length : Int) := by omega
      have G := Lib.hid (Gr.trans G2.out (Gr.trans G4.out Hg.out))
      clear HCl HCm
      go_wp2_with fail
      refine (HK.out _ (HT.out.gr G.out)).mono ?_
      rintro e w5 ⟨rfl, g5⟩
      go_wp2
      go_ret
      exact ⟨rfl, Gr.trans G.out g5⟩
theorem law_none {s : ByteArray} (h : NoCl s) (c : Int) (w : World) (hT : Tabs w) :
    Calls Tryd.prog 3 #[.int .i64 c, .string s] w fun e w' => e = .returned (.bool true) ∧ Gr w w' := by
  have HK := Lib.hid (fun w hT => known_any w hT)
  have HT := Lib.hid hT
  have HRi := Lib.hid (fun w => is_rn h c w)
  have HRs := Lib.hid (fun w => spans_rn h w)
  have HPi := Lib.hid (fun w => is_pn h c w)
  have HPs := Lib.hid (fun w => spans_pn h w)
  clear h hT
  go_enter Tryd.func3, Tryd.ntmps3
  go_wp2_with fail
  refine (HRi.out _).mono ?_
  rintro e w1 ⟨rfl, rfl⟩
  go_wp2_with fail
  refine (HRs.out _).mono ?_
  rintro e w2 ⟨rfl, rfl⟩
  go_wp2_with fail
  refine (HPi.out _).mono ?_
  rintro e w3 ⟨rfl, g3⟩
  have G3 := Lib.hid g3
  clear g3
  go_wp2_with fail
  refine (HPs.out _).mono ?_
  rintro e w4 ⟨rfl, g4⟩
  have G := Lib.hid (Gr.trans G3.out g4)
  clear g4 G3
  go_wp2_with fail
  go_loopw [13] (fun sc wr => sc = .int .i64 0 ∧ wr = w4) (fun sc _ => leftN 0 sc)
  case atStart => exact ⟨rfl, rfl⟩
  case round =>
    obtain ⟨rfl, rfl⟩ := hrel
    go_wp2_with fail
    refine (HK.out _ (HT.out.gr G.out)).mono ?_
    rintro e w5 ⟨rfl, g5⟩
    go_wp2
    go_ret
    exact ⟨rfl, Gr.trans G.out g5⟩
theorem spansL_ne {q : Int → Bool} {s : ByteArray} {l : List (List (Int × Int))} {L : List (Int × Int)} (_ : Has s q l L) (h : joinL L = spansL q) (hne : (joinL L).length ≠ 0) : spansL q ≠ [] := by
  rw [← h]; intro e; rw [e] at hne; exact hne rfl
theorem law_has {s : ByteArray} {q : Int → Bool} {l : List (List (Int × Int))} {L : List (Int × Int)} (hc : Cl s q) (hany : s ≠ ⟨#[97, 110, 121]⟩) (h : Has s q l L) (hj : joinL L = spansL q) (hne : (joinL L).length ≠ 0) (hjl : (joinL L).length ≤ 100000) (c : Int) (w : World) (hT : Tabs w) :
    Calls Tryd.prog 3 #[.int .i64 c, .string s] w fun e w' => e = .returned (.bool true) ∧ Gr w w' := by
  refine law_cls (spansL_ne h hj hne) (by rw [← hj]; exact hjl) (fun w => is_r hc c w) (fun w => spans_r hc hany w) (fun w => ?_) (fun w => ?_) w hT
  · have := is_p h.rows h.nine h.ne h.six c w
    rw [h.isq] at this
    exact this
  · have := spans_p h.rows h.nine h.good h.ne h.six h.nz h.perm h.sorted h.apart h.few h.small w
    rw [hj] at this
    exact this
theorem law_any (c : Int) (w : World) (hT : Tabs w) :
    Calls Tryd.prog 3 #[.int .i64 c, .string ⟨#[97, 110, 121]⟩] w fun e w' => e = .returned (.bool true) ∧ Gr w w' := by
  have h := has_any
  refine law_cls (J := [(0, 55295), (57344, 1114111)]) (by decide) (by decide) (fun w => is_r .c_any c w) (fun w => spans_ra w) (fun w => ?_) (fun w => ?_) w hT
  · have := is_p h.rows h.nine h.ne h.six c w
    rw [h.isq] at this
    exact this
  · have := spans_p h.rows h.nine h.good h.ne h.six h.nz h.perm h.sorted h.apart h.few h.small w
    rw [join_any] at this
    exact this
theorem law_classes (c : Int) (s : ByteArray) (_hc : -9223372036854775808 ≤ c ∧ c ≤ 9223372036854775807) (_hs : s.size ≤ 140737488351232) (w : World) (hT : Tabs w) :
    Calls Tryd.prog 3 #[.int .i64 c, .string s] w fun e w' => e = .returned (.bool true) ∧ Gr w w' := by
  rcases cl_or s with ⟨q, hc⟩ | hn
  · cases hc
    · exact law_has .c_upper (by decide) has_upper join_upper (by decide) (by decide) c w hT
    · exact law_has .c_lower (by decide) has_lower join_lower (by decide) (by decide) c w hT
    · exact law_has .c_letter (by decide) has_letter join_letter (by decide) (by decide) c w hT
    · exact law_has .c_digit (by decide) has_digit join_digit (by decide) (by decide) c w hT
    · exact law_has .c_mark (by decide) has_mark join_mark (by decide) (by decide) c w hT
    · exact law_has .c_blank (by decide) has_blank join_blank (by decide) (by decide) c w hT
    · exact law_has .c_word (by decide) has_word join_word (by decide) (by decide) c w hT
    · exact law_any c w hT
  · exact law_none hn c w hT
end Go.Proofs.YtiohoiebnpdkbaaDoor
