/- The two sources that the laws know. -/
import Derived.Test.YtaoehbnjipegoaaDoorLScan
namespace Go.Proofs.YtaoehbnjipegoaaDoor
open Go.RowKit Go.Shelf
variable {w : World} {P M : Nat} {s : ByteArray} {a en : Nat} {tm : Bool} {tv bv ov : Value} {x o e : UInt8}
theorem baE {a b : ByteArray} (h : a.data.toList = b.data.toList) : a = b := by
  obtain ⟨⟨a⟩⟩ := a
  obtain ⟨⟨b⟩⟩ := b
  simp at h
  rw [h]
theorem T_var (hs : s.size ≤ 4000) (hx : s.data.toList[a]? = some x) (hq : quoteL (s.data.toList.drop a) = none) (hh : Lib.hasPrefix (s.data.toList.drop a) [60, 60] = false) (hn : sigilB x.toNat = true) (n : Nat) (hw : wordN (s.data.toList.drop (a + 1)) = n) (h0 : 0 < n) (h12 : n ≤ 12) :
    Token P M s a (a + (1 + n)) en true tv bv ov (tok 2 (s.extract a (a + (1 + n)))) := by
  have hl : a < s.size := by rw [← sizeL]; exact (List.getElem?_eq_some_iff.1 hx).1
  have hl2 := wordN_le (s.data.toList.drop (a + 1))
  rw [hw, List.length_drop, sizeL] at hl2
  exact fun W h => token_variable h (fun W h => quote_no h (by omega) (by omega) hq) (fun W h => heredoc_no h (by omega) hh) (fun W h => variable_yes h (by omega) (by omega) x hx hn n hw h0 h12)
theorem T_word (hs : s.size ≤ 4000) (hx : s.data.toList[a]? = some x) (hq : quoteL (s.data.toList.drop a) = none) (hh : Lib.hasPrefix (s.data.toList.drop a) [60, 60] = false) (hn : sigilB x.toNat = false) (ha : alphaB x.toNat = true) (n : Nat) (hw : wordN (s.data.toList.drop a) = n) (h12 : n ≤ 12) :
    Token P M s a (a + n) en true tv bv ov (tok 0 (s.extract a (a + n))) := by
  have hl : a < s.size := by rw [← sizeL]; exact (List.getElem?_eq_some_iff.1 hx).1
  exact fun W h => token_word_t h hx ha (fun W h => quote_no h (by omega) (by omega) hq) (fun W h => heredoc_no h (by omega) hh) (fun W h => variable_no h hl (by omega) x hx hn) (fun W h => word_m h (by omega) n hw h12 (by omega))
theorem T_num (hs : s.size ≤ 4000) (hx : s.data.toList[a]? = some x) (hq : quoteL (s.data.toList.drop a) = none) (hh : Lib.hasPrefix (s.data.toList.drop a) [60, 60] = false) (hn : sigilB x.toNat = false) (ha : alphaB x.toNat = false) (hd : digB x.toNat = true) (n : Nat) (hw : digR s.data.toList s.size (a + 1) = n) :
    Token P M s a n en true tv bv ov (tok 1 (s.extract a n)) := by
  have hl : a < s.size := by rw [← sizeL]; exact (List.getElem?_eq_some_iff.1 hx).1
  exact fun W h => token_number_t h hx ha hd (fun W h => quote_no h (by omega) (by omega) hq) (fun W h => heredoc_no h (by omega) hh) (fun W h => variable_no h hl (by omega) x hx hn) (fun W h => by rw [← hw]; exact number_m h hl (by omega))
theorem T_sign (hs : s.size ≤ 4000) (hx : s.data.toList[a]? = some x) (ha : alphaB x.toNat = false) (hd : digB x.toNat = false) (n : Nat) (hw : signN (s.data.toList.drop a) = n) (h0 : 0 < n) :
    Token P M s a (a + n) en false tv bv ov (tok 3 (s.extract a (a + n))) := by
  have hl : a < s.size := by rw [← sizeL]; exact (List.getElem?_eq_some_iff.1 hx).1
  exact fun W h => token_sign_f h hx ha hd (fun W h => sign_m h (by omega) (by omega) n hw h0)
theorem T_pat {f m : Nat} (hs : s.size ≤ 4000) (hat : a ≤ s.size) (k : Nat) (hq : quoteL (s.data.toList.drop a) = some (7, k)) (ho : s.data.toList[a + k]? = some o) (he : (e.toNat : Int) = partI o.toNat) (he92 : e ≠ 92) (ho92 : o ≠ 92)
    (hm : endR s.data.toList o e f 0 (a + k + 1) = some m) (n : Nat) (hn : flagN s.data.toList (m + 1) [105, 109, 115, 120, 103] 0 = n) :
    Token P M s a (m + 1 + n) en true tv bv ov ⟨7, 0, ⟨(wsL ((s.data.toList.drop (a + k + 1)).take (m - (a + k + 1)))).toArray⟩, ⟨#[]⟩, s.extract (m + 1) (m + 1 + n), 0⟩ := by
  refine fun W h => token_quote h (fun W h => (quote_pat h hat (by omega) k hq ho he he92 ho92 hm n hn).mono ?_)
  rintro e w' ⟨q, hq, rfl, h1, h2⟩
  have : q = ⟨(wsL ((s.data.toList.drop (a + k + 1)).take (m - (a + k + 1)))).toArray⟩ := baE (by rw [hq])
  rw [this]
  exact ⟨rfl, h1, h2⟩
def srcA : ByteArray := ⟨#[36, 120, 32, 47, 32, 50]⟩
def toksA : List Tok := [⟨2, ((0 : Nat) : Int), ⟨#[36, 120]⟩, ⟨#[]⟩, ⟨#[]⟩, 0⟩, ⟨3, ((3 : Nat) : Int), ⟨#[47]⟩, ⟨#[]⟩, ⟨#[]⟩, 0⟩, ⟨1, ((5 : Nat) : Int), ⟨#[50]⟩, ⟨#[]⟩, ⟨#[]⟩, 0⟩]
def srcB : ByteArray := ⟨#[102, 40, 47, 50, 47, 41]⟩
def toksB : List Tok := [⟨0, ((0 : Nat) : Int), ⟨#[102]⟩, ⟨#[]⟩, ⟨#[]⟩, 0⟩, ⟨3, ((1 : Nat) : Int), ⟨#[40]⟩, ⟨#[]⟩, ⟨#[]⟩, 0⟩, ⟨7, ((2 : Nat) : Int), ⟨#[50]⟩, ⟨#[]⟩, ⟨#[]⟩, 0⟩, ⟨3, ((5 : Nat) : Int), ⟨#[41]⟩, ⟨#[]⟩, ⟨#[]⟩, 0⟩]
theorem stepsA : Steps srcA 0 0 true toksA [true, false, true] := by
  have h1 : ∀ P M tv bv ov, Token P M srcA 0 2 0 true tv bv ov (tok 2 ⟨#[36, 120]⟩) := fun P M tv bv ov => T_var (x := 36) (s := srcA) (a := 0) (by decide) (by rfl) (by rfl) (by rfl) (by rfl) 1 (by rfl) (by decide) (by decide)
  have h2 : ∀ P M tv bv ov, Token P M srcA 3 4 2 false tv bv ov (tok 3 ⟨#[47]⟩) := fun P M tv bv ov => T_sign (x := 47) (s := srcA) (a := 3) (by decide) (by rfl) (by rfl) (by rfl) 1 (by rfl) (by decide)
  have h3 : ∀ P M tv bv ov, Token P M srcA 5 6 4 true tv bv ov (tok 1 ⟨#[50]⟩) := fun P M tv bv ov => T_num (x := 50) (s := srcA) (a := 5) (by decide) (by rfl) (by rfl) (by rfl) (by rfl) (by rfl) (by rfl) 6 (by rfl)
  have hl : srcA.data.toList = [36, 120, 32, 47, 32, 50] := rfl
  refine .tok (a := 0) (b := 2) (Nat.le_refl _) (by decide) (fun n _ h => absurd h (by omega)) (by decide) (by decide) h1 (by decide) (by decide) ?_
  refine .tok (a := 3) (b := 4) (by decide) (by decide) (fun n _ h _ => ?_) (by decide) (by decide) h2 (by decide) (by decide) ?_
  · obtain rfl : n = 2 := by omega
    rfl
  refine .tok (a := 5) (b := 6) (by decide) (by decide) (fun n _ h _ => ?_) (by decide) (by decide) h3 (by decide) (by decide) ?_
  · obtain rfl : n = 4 := by omega
    rfl
  exact .done (by decide) (fun n _ h => by rw [hl] at h; simp at h; omega)
theorem stepsB : Steps srcB 0 0 true toksB [true, false, true, false] := by
  have h1 : ∀ P M tv bv ov, Token P M srcB 0 1 0 true tv bv ov (tok 0 ⟨#[102]⟩) := fun P M tv bv ov => T_word (x := 102) (s := srcB) (a := 0) (by decide) (by rfl) (by rfl) (by rfl) (by rfl) (by rfl) 1 (by rfl) (by decide)
  have h2 : ∀ P M tv bv ov, Token P M srcB 1 2 1 false tv bv ov (tok 3 ⟨#[40]⟩) := fun P M tv bv ov => T_sign (x := 40) (s := srcB) (a := 1) (by decide) (by rfl) (by rfl) (by rfl) 1 (by rfl) (by decide)
  have h3 : ∀ P M tv bv ov, Token P M srcB 2 5 2 true tv bv ov ⟨7, 0, ⟨#[50]⟩, ⟨#[]⟩, ⟨#[]⟩, 0⟩ := fun P M tv bv ov => T_pat (o := 47) (e := 47) (s := srcB) (a := 2) (f := 10) (m := 4) (by decide) (by decide) 0 (by rfl) (by rfl) (by rfl) (by decide) (by decide) (by rfl) 0 (by rfl)
  have h4 : ∀ P M tv bv ov, Token P M srcB 5 6 5 false tv bv ov (tok 3 ⟨#[41]⟩) := fun P M tv bv ov => T_sign (x := 41) (s := srcB) (a := 5) (by decide) (by rfl) (by rfl) (by rfl) 1 (by rfl) (by decide)
  have hl : srcB.data.toList = [102, 40, 47, 50, 47, 41] := rfl
  refine .tok (a := 0) (b := 1) (Nat.le_refl _) (by decide) (fun n _ h => absurd h (by omega)) (by decide) (by decide) h1 (by decide) (by decide) ?_
  refine .tok (a := 1) (b := 2) (by decide) (by decide) (fun n _ h _ => by omega) (by decide) (by decide) h2 (by decide) (by decide) ?_
  refine .tok (a := 2) (b := 5) (by decide) (by decide) (fun n _ h _ => by omega) (by decide) (by decide) h3 (by decide) (by decide) ?_
  refine .tok (a := 5) (b := 6) (by decide) (by decide) (fun n _ h _ => by omega) (by decide) (by decide) h4 (by decide) (by decide) ?_
  exact .done (by decide) (fun n _ h => by rw [hl] at h; simp at h; omega)
theorem own_cell {base e size n : Nat} {v : Value} {xs : List Value} (h : w.ownsRow base e size v n xs) (hn : n ≠ 0) : ∃ g cap, v = .slice (some ⟨g, 0, none⟩) n cap ∧ base ≤ g ∧ g < w.heap.size ∧ n ≤ cap ∧ ∀ j u, xs[j]? = some u → w.cell? ⟨g, j, none⟩ = some u := by
  obtain ⟨h1, h2⟩ := h
  rcases h2 with ⟨_, h2⟩ | ⟨g, cap, cur, rfl, hg, hh, hc, hm, hs, ht⟩
  · exact absurd h2 hn
  · refine ⟨g, cap, rfl, hg, (Array.getElem?_eq_some_iff.1 hh).1, hc, fun j u hj => ?_⟩
    rw [← ht] at hj
    have hj2 : j < n * size := by
      have := (List.getElem?_eq_some_iff.1 hj).1
      simp at this
      omega
    rw [List.getElem?_take_of_lt hj2] at hj
    simp [World.cell?, hh]
    simpa using hj
theorem lexA (w : World) : Calls Tryd.prog 15 #[.string ⟨#[36, 120, 32, 47, 32, 50]⟩] w fun e w' => ∃ g cap, e = .returned (.tuple #[.slice (some ⟨g, 0, none⟩) 3 cap, .int .i64 3, .int .i64 0]) ∧ g < w'.heap.size ∧ w'.cell? ⟨g, 6, none⟩ = some (.int .i64 3) ∧ w'.cell? ⟨g, 8, none⟩ = some (.string ⟨#[47]⟩) ∧ Gr w w' := by
  refine (lex_p (s := srcA) (by decide) stepsA (by decide) (fun n h => ?_) w).mono ?_
  · have hl : srcA.data.toList = [36, 120, 32, 47, 32, 50] := rfl
    have h' := h
    rw [hl] at h'
    simp at h'
    have : n = 0 ∨ n = 1 ∨ n = 2 ∨ n = 3 ∨ n = 4 ∨ n = 5 := by omega
    rcases this with rfl | rfl | rfl | rfl | rfl | rfl <;> rfl
  · rintro e w2 ⟨tv, rfl, ho, g⟩
    obtain ⟨b, cap, rfl, _, hb, _, hc⟩ := own_cell ho (by decide)
    exact ⟨b, cap, rfl, hb, hc 6 _ rfl, hc 8 _ rfl, g⟩
theorem lexB (w : World) : Calls Tryd.prog 15 #[.string ⟨#[102, 40, 47, 50, 47, 41]⟩] w fun e w' => ∃ g cap, e = .returned (.tuple #[.slice (some ⟨g, 0, none⟩) 4 cap, .int .i64 4, .int .i64 0]) ∧ g < w'.heap.size ∧ w'.cell? ⟨g, 12, none⟩ = some (.int .i64 7) ∧ w'.cell? ⟨g, 14, none⟩ = some (.string ⟨#[50]⟩) ∧ Gr w w' := by
  refine (lex_p (s := srcB) (by decide) stepsB (by decide) (fun n h => ?_) w).mono ?_
  · have hl : srcB.data.toList = [102, 40, 47, 50, 47, 41] := rfl
    have h' := h
    rw [hl] at h'
    simp at h'
    have : n = 0 ∨ n = 1 ∨ n = 2 ∨ n = 3 ∨ n = 4 ∨ n = 5 := by omega
    rcases this with rfl | rfl | rfl | rfl | rfl | rfl <;> rfl
  · rintro e w2 ⟨tv, rfl, ho, g⟩
    obtain ⟨b, cap, rfl, _, hb, _, hc⟩ := own_cell ho (by decide)
    exact ⟨b, cap, rfl, hb, hc 12 _ rfl, hc 14 _ rfl, g⟩
theorem cell_gr {w' : World} {g j : Nat} (h : Gr w w') (hg : g < w.heap.size) : w'.cell? ⟨g, j, none⟩ = w.cell? ⟨g, j, none⟩ := by
  simp only [World.cell?, h.block _ hg]
set_option maxRecDepth 100000 in
set_option maxHeartbeats 2000000 in
theorem known_l (w : World) : Calls Tryd.prog 8 #[] w fun e w' => e = .returned (.bool true) ∧ Gr w w' := by
  have HA := Lib.hid (fun w => lexA w)
  have HB := Lib.hid (fun w => lexB w)
  go_enter Tryd.func8, Tryd.ntmps8
  go_wp2_with fail
  refine (HA.out _).mono ?_
  rintro e w2 ⟨g, cap, rfl, hb, k1, k2, g2⟩
  have Hb := Lib.hid hb
  have K1 := Lib.hid k1
  have K2 := Lib.hid k2
  have G2 := Lib.hid g2
  clear hb k1 k2 g2
  go_wp2_with fail
  refine (HB.out _).mono ?_
  rintro e w3 ⟨g', cap', rfl, hb', k3, k4, g3⟩
  have k1 := (cell_gr (j := 6) g3 Hb.out).trans K1.out
  have k2 := (cell_gr (j := 8) g3 Hb.out).trans K2.out
  have G3 := Lib.hid (G2.out.trans g3)
  clear g3 hb' K1 K2 Hb
  go_wp2
  go_ret
  exact ⟨rfl, G3.out⟩
end Go.Proofs.YtaoehbnjipegoaaDoor
