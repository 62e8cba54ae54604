/- The law on escapes. -/
import Derived.Test.YtcaoknlgbocgpaaGreatDoorCKnow
import Derived.Test.YtcaoknlgbocgpaaGreatDoorCRUn2
namespace Go.Proofs.YtcaoknlgbocgpaaGreatDoor
open Go.RowKit Go.Shelf
theorem valid_ascii (n : Nat) : ∀ l : List UInt8, l.length ≤ n → (∀ x ∈ l, x.toNat < 128) → (validL l).2 = true := by
  induction n with
  | zero =>
    intro l hl _
    obtain rfl : l = [] := List.eq_nil_of_length_eq_zero (by omega)
    rw [validL_nil]
  | succ n ih =>
    intro l hl h
    cases l with
    | nil => rw [validL_nil]
    | cons b r =>
      have hb : ((b.toNat : Nat) : Int) < 128 := by have := h b List.mem_cons_self; omega
      have e : firstL (b :: r) = ((b.toNat : Int), 1) := by rw [firstL_cons, firstC_one hb]
      rw [validL_on (by simp) (by rw [e]; simp), e]
      exact ih r (by simpa using hl) (fun x hx => h x (List.mem_cons_of_mem _ hx))
theorem hexD_ascii (d : Nat) (h : d < 16) : (hexD d).toNat < 128 := by
  have : ∀ d, d < 16 → (hexD d).toNat < 128 := by decide
  exact this d h
theorem hexL_ascii (u : Nat) : ∀ x ∈ hexL u, x.toNat < 128 := by
  induction u using Nat.strongRecOn with
  | ind u ih =>
    by_cases h : u < 16
    · rw [hexL_one h]
      intro x hx
      rw [List.mem_singleton] at hx
      subst hx
      exact hexD_ascii u h
    · rw [hexL_more h]
      intro x hx
      rw [List.mem_append, List.mem_singleton] at hx
      rcases hx with hx | rfl
      · exact ih (u / 16) (Nat.div_lt_self (by omega) (by omega)) x hx
      · exact hexD_ascii _ (Nat.mod_lt _ (by decide))
theorem escC_ascii (c : Int) (hc : isCh c = true) : ∀ x ∈ escC c, x.toNat < 128 := by
  have hb := isCh_true.1 hc
  unfold escC
  by_cases h1 : c = 92
  · rw [if_pos h1]; intro x hx; simp at hx; subst hx; decide
  rw [if_neg h1]
  by_cases h2 : c < 32 ∨ 126 < c
  · rw [if_pos h2]
    intro x hx
    simp only [List.mem_cons, List.mem_append, List.not_mem_nil, or_false] at hx
    rcases hx with rfl | rfl | rfl | hx | rfl
    · decide
    · decide
    · decide
    · exact hexL_ascii _ x hx
    · decide
  · rw [if_neg h2, one1 (by omega)]
    intro x hx
    rw [List.mem_singleton] at hx
    subst hx
    have := by8_to (n := c) (by omega) (by omega)
    omega
theorem escs_back {l : List UInt8} (h : (ansT l ((runesL l).flatMap escC)).2 = 0) : unescT (ansT l ((runesL l).flatMap escC)).1 = (l, 0) := by
  by_cases hc : chkE l = 0
  · rw [ansT_ok hc] at h ⊢
    obtain ⟨h1, h2⟩ := chkE_zero hc
    by_cases hb : 4096 < ((runesL l).flatMap escC).length
    · unfold sizE at h; rw [if_pos hb] at h; cases h
    · have e : sizE ((runesL l).flatMap escC) = ((runesL l).flatMap escC, 0) := if_neg hb
      rw [e]
      show unescT ((runesL l).flatMap escC) = _
      have hv : (validL ((runesL l).flatMap escC)).2 = true := valid_ascii _ _ (Nat.le_refl _) (fun x hx => by
        rw [List.mem_flatMap] at hx
        obtain ⟨c, hc, hx⟩ := hx
        exact escC_ascii c (List.all_eq_true.1 (runes_ch l) c hc) x hx)
      have hk : chkE ((runesL l).flatMap escC) = 0 := chkE_ok hb hv
      rw [unescT_ok hk (unesc_escs _ (runes_ch l)), write_runes l h2]
  · rw [ansT_no hc] at h; exact absurd h hc
theorem bytes_own2 (s : ByteArray) : (⟨s.data.toList.toArray⟩ : ByteArray) = s := (barr_of rfl).symm
set_option maxRecDepth 100000 in
set_option maxHeartbeats 1000000 in
theorem law_escapes (s : ByteArray) (_hs : s.size ≤ 140737488351232) (w : World) (hT : Tabs w) (hD : DTab w) (hE : ErrV w) : Calls Tryz.prog 3 #[.string s] w fun e w' => e = .returned (.bool true) ∧ Gr w w' := by
  have HK := Lib.hid (fun w (h : Tabs w) => known_any w h)
  have HT := Lib.hid hT
  have HD := Lib.hid hD
  have HE := Lib.hid hE
  clear hT hD hE
  by_cases h1 : 20000 < s.size
  · go_enter Tryz.func3, Tryz.ntmps3
    go_wp2_with fail
    refine (HK.out _ HT.out).mono ?_
    rintro e w1 ⟨rfl, g1⟩
    go_wp2
    go_ret
    exact ⟨rfl, g1⟩
  · have HRE := Lib.hid (fun w => escape_r s (by omega) w)
    have HRU := Lib.hid (fun w => unescape_r s (by omega) w)
    have HPE := Lib.hid (fun w h => escape_p s w h)
    have HPU := Lib.hid (fun w h => unescape_p s w h)
    have HPB := Lib.hid (fun w h => unescape_p ⟨(ansT s.data.toList ((runesL s.data.toList).flatMap escC)).1.toArray⟩ w h)
    rw [show (⟨(ansT s.data.toList ((runesL s.data.toList).flatMap escC)).1.toArray⟩ : ByteArray).data.toList = (ansT s.data.toList ((runesL s.data.toList).flatMap escC)).1 by simp] at HPB
    generalize unescT s.data.toList = U at *
    obtain ⟨u1, u2⟩ := U
    by_cases h : (ansT s.data.toList ((runesL s.data.toList).flatMap escC)).2 = 0
    · have hback := escs_back h
      rw [hback] at HPB
      have HPB2 : Hid (∀ w, ErrV w → Calls Tryz.prog 10 #[.string ⟨(ansT s.data.toList ((runesL s.data.toList).flatMap escC)).1.toArray⟩] w fun e w' => e = .returned (.tuple #[.string s, .int .i64 0]) ∧ Gr w w') := Lib.hid (fun w hw => (HPB.out w hw).mono fun e w' ⟨he, hg⟩ => ⟨by rw [he]; try (show Ending.returned (.tuple #[.string ⟨s.data.toList.toArray⟩, _]) = _; rw [bytes_own2]), hg⟩)
      obtain ⟨a1, hA⟩ : ∃ a1, ansT s.data.toList ((runesL s.data.toList).flatMap escC) = (a1, 0) := ⟨(ansT s.data.toList ((runesL s.data.toList).flatMap escC)).1, Prod.ext rfl h⟩
      rw [hA] at HRE HPE HPB2
      clear HPB hback h hA
      go_enter Tryz.func3, Tryz.ntmps3
      go_wp2_with fail
      refine (HRE.out _).mono ?_
      rintro e w1 ⟨rfl, g1⟩
      go_wp2_with fail
      refine (HRU.out _).mono ?_
      rintro e w2 ⟨rfl, g2⟩
      have G2 := Lib.hid (Gr.trans g1 g2)
      go_wp2_with fail
      refine (HPE.out _ (HD.out.on G2.out)).mono ?_
      rintro e w3 ⟨rfl, g3⟩
      have G3 := Lib.hid (Gr.trans G2.out g3)
      go_wp2_with fail
      refine (HPU.out _ (HE.out.on G3.out)).mono ?_
      rintro e w4 ⟨rfl, g4⟩
      have G4 := Lib.hid (Gr.trans G3.out g4)
      go_wp2_with fail
      refine (HPB2.out _ (HE.out.on G4.out)).mono ?_
      rintro e w5 ⟨rfl, g5⟩
      have G5 := Lib.hid (Gr.trans G4.out g5)
      go_wp2_with fail
      refine (HK.out _ (HT.out.gr G5.out)).mono ?_
      rintro e w6 ⟨rfl, g6⟩
      go_wp2
      go_ret
      exact ⟨by simp, Gr.trans G5.out g6⟩
    · have hb0 : ((ansT s.data.toList ((runesL s.data.toList).flatMap escC)).2 == 0) = false := beq_eq_false_iff_ne.2 h
      have hb1 : ((ansT s.data.toList ((runesL s.data.toList).flatMap escC)).2 != 0) = true := by
        show (!((ansT s.data.toList ((runesL s.data.toList).flatMap escC)).2 == 0)) = true
        rw [hb0]; rfl
      clear h
      generalize ansT s.data.toList ((runesL s.data.toList).flatMap escC) = A at *
      obtain ⟨a1, a2⟩ := A
      generalize unescT a1 = B at *
      obtain ⟨b1, b2⟩ := B
      go_enter Tryz.func3, Tryz.ntmps3
      go_wp2_with fail
      refine (HRE.out _).mono ?_
      rintro e w1 ⟨rfl, g1⟩
      go_wp2_with fail
      refine (HRU.out _).mono ?_
      rintro e w2 ⟨rfl, g2⟩
      have G2 := Lib.hid (Gr.trans g1 g2)
      go_wp2_with fail
      refine (HPE.out _ (HD.out.on G2.out)).mono ?_
      rintro e w3 ⟨rfl, g3⟩
      have G3 := Lib.hid (Gr.trans G2.out g3)
      go_wp2_with fail
      refine (HPU.out _ (HE.out.on G3.out)).mono ?_
      rintro e w4 ⟨rfl, g4⟩
      have G4 := Lib.hid (Gr.trans G3.out g4)
      go_wp2_with fail
      refine (HPB.out _ (HE.out.on G4.out)).mono ?_
      rintro e w5 ⟨rfl, g5⟩
      have G5 := Lib.hid (Gr.trans G4.out g5)
      go_wp2_with fail
      refine (HK.out _ (HT.out.gr G5.out)).mono ?_
      rintro e w6 ⟨rfl, g6⟩
      go_wp2
      go_ret
      exact ⟨by simp, Gr.trans G5.out g6⟩
end Go.Proofs.YtcaoknlgbocgpaaGreatDoor
