/- What is quoted is read as what it was. -/
import Derived.Test.YtaoehbnjipegoaaDoorLStr
import Derived.Test.YtaoehbnjipegoaaDoorLIsW
namespace Go.Proofs.YtaoehbnjipegoaaDoor
open Go.RowKit Go.Shelf
theorem escL_cons (c : UInt8) (t : List UInt8) : escL (c :: t) = escC c ++ escL t := rfl
theorem endR_quoted (L : List UInt8) : ∀ (t : List UInt8) (n f : Nat), L.drop n = escL t ++ [39] → (escL t).length < f → endR L 39 39 f 0 n = some (n + (escL t).length)
  | [], n, f, h, hf => by
    obtain ⟨f, rfl⟩ : ∃ g, f = g + 1 := ⟨f - 1, by omega⟩
    have h0 : L[n]? = some 39 := by
      have := congrArg (fun l => l[0]?) h
      simpa [escL] using this
    rw [endR, h0]
    simp [escL]
  | c :: t, n, f, h, hf => by
    obtain ⟨f, rfl⟩ : ∃ g, f = g + 1 := ⟨f - 1, by omega⟩
    rw [escL_cons] at h hf ⊢
    rw [List.length_append] at hf ⊢
    by_cases hc : c = 39 ∨ c = 92
    · have e : escC c = [92, c] := by unfold escC; rw [if_pos hc]
      rw [e] at h hf ⊢
      have h0 : L[n]? = some 92 := by
        have := congrArg (fun l => l[0]?) h
        simpa using this
      have h1 : n + 1 < L.length := by
        have := congrArg List.length h
        simp at this
        omega
      have h2 : L.drop (n + 2) = escL t ++ [39] := by
        have := congrArg (List.drop 2) h
        rw [List.drop_drop] at this
        simpa using this
      rw [endR, h0]
      simp only
      rw [if_pos ⟨trivial, h1⟩, endR_quoted L t (n + 2) f h2 (by simp at hf; omega)]
      simp; omega
    · have e : escC c = [c] := by unfold escC; rw [if_neg hc]
      rw [e] at h hf ⊢
      have h0 : L[n]? = some c := by
        have := congrArg (fun l => l[0]?) h
        simpa using this
      have h2 : L.drop (n + 1) = escL t ++ [39] := by
        have := congrArg (List.drop 1) h
        rw [List.drop_drop] at this
        simpa using this
      have h39 : c ≠ 39 := fun h => hc (.inl h)
      have h92 : c ≠ 92 := fun h => hc (.inr h)
      rw [endR, h0]
      simp only
      rw [if_neg (fun h => h92 h.1), if_neg h39, if_neg h39, endR_quoted L t (n + 1) f h2 (by simp at hf; omega)]
      simp; omega
theorem eachL_esc : ∀ (t : List UInt8) (f : Nat), (escL t).length ≤ f → eachL plG f (escL t) = t
  | [], f, _ => eachL_nil _ _
  | c :: t, f, hf => by
    rw [escL_cons] at hf ⊢
    rw [List.length_append] at hf
    by_cases hc : c = 39 ∨ c = 92
    · have e : escC c = [92, c] := by unfold escC; rw [if_pos hc]
      rw [e] at hf ⊢
      obtain ⟨f, rfl⟩ : ∃ g, f = g + 1 := ⟨f - 1, by simp at hf; omega⟩
      rw [eachL_two (by simp) rfl]
      have hp : plG [92, c] = [c] := by
        unfold plG
        rw [if_pos ⟨rfl, by rcases hc with h | h <;> simp [h]⟩]
        rfl
      show plG [92, c] ++ eachL plG f (escL t) = c :: t
      rw [hp, eachL_esc t f (by simp at hf; omega)]
      rfl
    · have e : escC c = [c] := by unfold escC; rw [if_neg hc]
      rw [e] at hf ⊢
      obtain ⟨f, rfl⟩ : ∃ g, f = g + 1 := ⟨f - 1, by simp at hf; omega⟩
      have h1 := eachL_one (g := plG) (f := f) (l := c :: escL t) (by simp) (fun h => hc (.inr h.1))
      have hp : plG [c] = [c] := by
        unfold plG
        rw [if_neg (fun h => absurd h.1 (by simp))]
      show eachL plG (f + 1) (c :: escL t) = c :: t
      rw [h1]
      show plG [c] ++ eachL plG f (escL t) = c :: t
      rw [hp, eachL_esc t f (by simp at hf; omega)]
      rfl
theorem plL_esc (t : List UInt8) : plL (escL t) = t := eachL_esc t _ (Nat.le_refl _)
theorem quoteL_39 (r : List UInt8) : quoteL (39 :: r) = some (4, 0) := rfl
theorem own_of_for {l : List UInt8} (h : ¬ forL l < l.length) : ∀ c ∈ l, ownB (c.toNat : Int) = true := by
  have h2 : forL l = l.length := by have := forL_le l; omega
  unfold forL at h2
  rw [List.findIdx_eq_length] at h2
  intro c hc
  simpa using h2 c hc
theorem own_quoted {l : List UInt8} (h : ∀ c ∈ l, ownB (c.toNat : Int) = true) : ∀ c ∈ (39 :: (escL l ++ [39])), ownB (c.toNat : Int) = true := by
  intro c hc
  simp only [List.mem_cons, List.mem_append, List.not_mem_nil, or_false] at hc
  rcases hc with rfl | hc | rfl
  · rfl
  · unfold escL at hc
    rw [List.mem_flatMap] at hc
    obtain ⟨a, ha, hca⟩ := hc
    unfold escC at hca
    split at hca
    · simp at hca
      rcases hca with rfl | rfl
      · rfl
      · exact h _ ha
    · simp at hca
      subst hca
      exact h _ ha
  · rfl
variable {w : World} {P M : Nat} {s : ByteArray} {a en m f : Nat} {tv bv ov : Value}
theorem T_str (hs : s.size ≤ 4000) (hat : a ≤ s.size) (k : Nat) (hq : quoteL (s.data.toList.drop a) = some (4, k)) (ho : s.data.toList[a + k]? = some 39) (hm : endR s.data.toList 39 39 f 0 (a + k + 1) = some m) :
    Token P M s a (m + 1) en true tv bv ov ⟨4, 0, ⟨(plL ((s.data.toList.drop (a + k + 1)).take (m - (a + k + 1)))).toArray⟩, ⟨#[]⟩, ⟨#[]⟩, 0⟩ := by
  refine fun W h => token_quote h (fun W h => (quote_str h hat (by omega) k hq ho hm).mono ?_)
  rintro e w' ⟨q, hq, rfl, h1, h2⟩
  have : q = ⟨(plL ((s.data.toList.drop (a + k + 1)).take (m - (a + k + 1)))).toArray⟩ := baE (by rw [hq])
  rw [this]
  exact ⟨rfl, h1, h2⟩
theorem steps_quoted (l : List UInt8) (hs : (qtB l).size ≤ 4000) : Steps (qtB l) 0 0 true [⟨4, ((0 : Nat) : Int), ⟨l.toArray⟩, ⟨#[]⟩, ⟨#[]⟩, 0⟩] [true] := by
  have hl : (qtB l).data.toList = 39 :: (escL l ++ [39]) := by simp [qtB]
  have hlen : (qtB l).data.toList.length = (escL l).length + 2 := by rw [hl]; simp
  have hm : endR (qtB l).data.toList 39 39 ((escL l).length + 1) 0 (0 + 0 + 1) = some (1 + (escL l).length) := endR_quoted _ l 1 _ (by rw [hl]; rfl) (by omega)
  have h1 : ∀ P M tv bv ov, Token P M (qtB l) 0 (1 + (escL l).length + 1) 0 true tv bv ov ⟨4, 0, ⟨l.toArray⟩, ⟨#[]⟩, ⟨#[]⟩, 0⟩ := fun P M tv bv ov => by
    have := T_str (P := P) (M := M) (en := 0) (tv := tv) (bv := bv) (ov := ov) hs (Nat.zero_le _) 0 (by rw [hl]; exact quoteL_39 _) (by rw [hl]; rfl) hm
    rw [show ((qtB l).data.toList.drop (0 + 0 + 1)).take (1 + (escL l).length - (0 + 0 + 1)) = escL l by rw [hl]; simp, plL_esc] at this
    exact this
  have hb : ∀ (h : 0 < (qtB l).data.toList.length), (qtB l).data.toList[0] = 39 := fun h => by simp [hl]
  refine .tok (a := 0) (b := 1 + (escL l).length + 1) (Nat.le_refl _) (by omega) (fun n _ h => absurd h (by omega)) ⟨by rw [hb]; rfl, by rw [hb]; decide⟩ (by omega) h1 (fun h => absurd h (by decide)) (fun h => absurd h (by decide)) ?_
  · exact .done (by omega) (fun n h1 h2 => absurd h2 (by omega))
theorem lexQ (l : List UInt8) (hs : (qtB l).size ≤ 4000) (ho : ∀ c ∈ l, ownB (c.toNat : Int) = true) (w : World) : Calls Tryd.prog 15 #[.string (qtB l)] w fun e w' => ∃ g cap, e = .returned (.tuple #[.slice (some ⟨g, 0, none⟩) 1 cap, .int .i64 1, .int .i64 0]) ∧ g < w'.heap.size ∧ w'.cell? ⟨g, 0, none⟩ = some (.int .i64 4) ∧ w'.cell? ⟨g, 2, none⟩ = some (.string ⟨l.toArray⟩) ∧ Gr w w' := by
  have hl : (qtB l).data.toList = 39 :: (escL l ++ [39]) := by simp [qtB]
  refine (lex_p hs (steps_quoted l hs) (by simp) (fun n h => own_quoted ho _ (by rw [← hl]; exact List.getElem_mem h)) w).mono ?_
  rintro e w2 ⟨tv, rfl, hO, g⟩
  obtain ⟨b, cap, rfl, _, hb, _, hc⟩ := own_cell hO (by simp)
  exact ⟨b, cap, rfl, hb, hc 0 _ rfl, hc 2 _ rfl, g⟩
set_option maxRecDepth 100000 in
set_option maxHeartbeats 2000000 in
theorem law_quotes (s : ByteArray) (hs : s.size ≤ 140737488351232) (w : World) : Calls Tryd.prog 5 #[.string s] w fun e w' => e = .returned (.bool true) ∧ Gr w w' := by
  have HO := Lib.hid (fun w => over_l s w)
  have HK := Lib.hid (fun w => known_l w)
  have HP := Lib.hid (fun w => Quote_p s hs w)
  have HR := Lib.hid (fun w => Quote_r s hs w)
  by_cases ho : 16000 < (s.size : Int)
  · have ho' : decide (16000 < (s.size : Int)) = true := by simpa using ho
    rw [ho'] at HO
    clear ho ho' HP HR
    go_enter Tryd.func5, Tryd.ntmps5
    go_wp2_with fail
    refine (HO.out _).mono ?_
    rintro e w1 ⟨rfl, rfl⟩
    go_wp2_with fail
    refine (HK.out _).mono ?_
    rintro e w2 ⟨rfl, g⟩
    go_wp2
    go_ret
    exact ⟨rfl, g⟩
  · have ho' : decide (16000 < (s.size : Int)) = false := by simpa using ho
    rw [ho'] at HO
    clear ho ho'
    unfold quoteV at HP HR
    by_cases h1 : 4096 < s.data.toList.length
    · rw [if_pos h1] at HP HR
      clear h1
      go_enter Tryd.func5, Tryd.ntmps5
      go_wp2_with fail
      refine (HO.out _).mono ?_
      rintro e w1 ⟨rfl, rfl⟩
      go_wp2_with fail
      refine (HR.out _).mono ?_
      rintro e w2 ⟨rfl, g2⟩
      go_wp2_with fail
      refine (HP.out _).mono ?_
      rintro e w3 ⟨rfl, g3⟩
      go_wp2_with fail
      refine (HK.out _).mono ?_
      rintro e w4 ⟨rfl, g4⟩
      go_wp2
      go_ret
      exact ⟨rfl, (g2.trans g3).trans g4⟩
    · rw [if_neg h1] at HP HR
      by_cases h2 : forL s.data.toList < s.data.toList.length
      · rw [if_pos h2] at HP HR
        clear h1 h2
        go_enter Tryd.func5, Tryd.ntmps5
        go_wp2_with fail
        refine (HO.out _).mono ?_
        rintro e w1 ⟨rfl, rfl⟩
        go_wp2_with fail
        refine (HR.out _).mono ?_
        rintro e w2 ⟨rfl, g2⟩
        go_wp2_with fail
        refine (HP.out _).mono ?_
        rintro e w3 ⟨rfl, g3⟩
        go_wp2_with fail
        refine (HK.out _).mono ?_
        rintro e w4 ⟨rfl, g4⟩
        go_wp2
        go_ret
        exact ⟨rfl, (g2.trans g3).trans g4⟩
      · rw [if_neg h2] at HP HR
        have hown := own_of_for h2
        by_cases h3 : (qtB s.data.toList).size ≤ 4000
        · have HL := Lib.hid (fun w => lexQ s.data.toList h3 hown w)
          rw [show (⟨s.data.toList.toArray⟩ : ByteArray) = s from baE (by simp)] at HL
          generalize qtB s.data.toList = q at *
          have t3 : decide ((4000 : Int) < (q.size : Int)) = false := by simp; omega
          have tq : (q.toList != q.toList) = false := by simp
          have ts : (s.toList == s.toList) = true := by simp
          clear h1 h2 h3 hown
          go_enter Tryd.func5, Tryd.ntmps5
          go_wp2_with fail
          refine (HO.out _).mono ?_
          rintro e w1 ⟨rfl, rfl⟩
          go_wp2_with fail
          refine (HR.out _).mono ?_
          rintro e w2 ⟨rfl, g2⟩
          have G2 := Lib.hid g2
          clear g2
          go_wp2_with fail
          refine (HP.out _).mono ?_
          rintro e w3 ⟨rfl, g3⟩
          have G3 := Lib.hid (G2.out.trans g3)
          clear g3
          go_wp2_with fail
          refine (HL.out _).mono ?_
          rintro e w4 ⟨g, cap, rfl, hb, k1, k2, g4⟩
          have G4 := Lib.hid (G3.out.trans g4)
          clear g4
          go_wp2_with fail
          refine (HK.out _).mono ?_
          rintro e w5 ⟨rfl, g5⟩
          go_wp2
          go_ret
          exact ⟨rfl, G4.out.trans g5⟩
        · generalize qtB s.data.toList = q at *
          have t3 : (4000 : Int) < (q.size : Int) := by omega
          have tq : (q.toList != q.toList) = false := by simp
          clear h1 h2 h3 hown
          go_enter Tryd.func5, Tryd.ntmps5
          go_wp2_with fail
          refine (HO.out _).mono ?_
          rintro e w1 ⟨rfl, rfl⟩
          go_wp2_with fail
          refine (HR.out _).mono ?_
          rintro e w2 ⟨rfl, g2⟩
          go_wp2_with fail
          refine (HP.out _).mono ?_
          rintro e w3 ⟨rfl, g3⟩
          go_wp2_with fail
          refine (HK.out _).mono ?_
          rintro e w4 ⟨rfl, g4⟩
          go_wp2
          go_ret
          exact ⟨rfl, (g2.trans g3).trans g4⟩
end Go.Proofs.YtaoehbnjipegoaaDoor
