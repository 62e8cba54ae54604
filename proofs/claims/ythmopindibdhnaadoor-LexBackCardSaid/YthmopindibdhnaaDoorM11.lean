/- LScan LKnow GEach GPiece -/
import Derived.Test.YthmopindibdhnaaDoorM10
import Derived.Test.YthmopindibdhnaaDoorM09
namespace Go.Proofs.YthmopindibdhnaaDoor
open Go.RowKit Go.Shelf
variable {w : World} {P M : Nat} {s : ByteArray} {at_ en : Nat} {tm : Bool} {tv bv ov : Value} {toks : List Tok} {terms : List Bool}
theorem Got.mono {b b2 : Nat} (h : Got w b tv bv toks terms) (hb : b2 ≤ b) : Got w b2 tv bv toks terms := by
  obtain ⟨⟨a1, a2⟩, ⟨b1, b2'⟩⟩ := h
  refine ⟨⟨a1, ?_⟩, ⟨b1, ?_⟩⟩
  · rcases a2 with a2 | ⟨g, cap, cur, e1, e3, e4⟩
    · exact .inl a2
    · exact .inr ⟨g, cap, cur, e1, by omega, e4⟩
  · rcases b2' with a2 | ⟨g, cap, cur, e1, e3, e4⟩
    · exact .inl a2
    · exact .inr ⟨g, cap, cur, e1, by omega, e4⟩
theorem Got.gr {w' : World} {b : Nat} (h : Got w b tv bv toks terms) (g : Gr w w') : Got w' b tv bv toks terms := ⟨ownsRow_gr h.tokR g, ownsRow_gr h.termR g⟩
theorem Fr.gr {base : Nat} {w w' : World} (h : Fr P base w w') (hP : base ≤ P) (hb : base = w.heap.size) : Gr w w' :=
  ⟨h.os, h.tape, h.output, h.size, fun k hk => h.block k (by omega) (by omega)⟩
set_option maxRecDepth 100000 in
set_option maxHeartbeats 2000000 in
theorem scan_p (hs : s.size ≤ 4000) (hS : Steps s 0 0 true toks terms) (hn : toks.length ≤ 1000 ∧ terms.length ≤ 4000) (hO : ∀ n (h : n < s.data.toList.length), ownB (s.data.toList[n].toNat : Int) = true) (w : World) :
    Calls Tryd.prog 9 #[.string s] w fun e w' => ∃ (P M a e2 : Nat) (t : Bool) (tv bv : Value), e = .returned (.tuple #[.pointer (some ⟨P, 0, none⟩), .int .i64 0, .int .i64 0]) ∧ Sc w' P M s a e2 t tv bv (.slice none 0 0) ∧ Got w' w.heap.size tv bv toks terms ∧ Gr w w' := by
  have HS := Lib.hid hS
  have HF := Lib.hid (fun w => foreign_no s (by omega) hO w)
  have hs1 : (s.size : Int) ≤ 4000 := by omega
  clear hS hO
  have hmm := @run_makeMap Tryd.prog
  go_enter Tryd.func9, Tryd.ntmps9
  go_wp2_with fail
  generalize hW : (w.alloc (.map #[] 0)).alloc (.cells #[.string s, .int .i64 0, .int .i64 0, .bool true, .slice none 0 0, .slice none 0 0, .slice none 0 0, .map (some w.heap.size)] 40) = W1 at *
  have S1 : Hid (Sc W1 (w.heap.size + 1) w.heap.size s 0 0 true (.slice none 0 0) (.slice none 0 0) (.slice none 0 0)) := Lib.hid (by
    rw [← hW]
    refine ⟨?_, ?_, by omega⟩
    · have := heap_alloc_new (w.alloc (.map #[] 0)) (.cells #[.string s, .int .i64 0, .int .i64 0, .bool true, .slice none 0 0, .slice none 0 0, .slice none 0 0, .map (some w.heap.size)] 40)
      simpa using this
    · rw [((Gr.refl (w.alloc (.map #[] 0))).alloc _).block _ (by simp)]
      exact heap_alloc_new w _)
  have G1 : Hid (Gr w W1) := Lib.hid (by rw [← hW]; exact ((Gr.refl w).alloc _).alloc _)
  have Z1 : Hid (W1.heap.size = w.heap.size + 2) := Lib.hid (by rw [← hW]; simp)
  clear hW
  have Hn := Lib.hid hn
  clear hn
  refine (run_p S1.out (by omega) HS.out (by have := Hn.out; omega)).mono ?_
  rintro e w2 ⟨a2, e2, t2, tv, bv, rfl, hS2, hG2, hF2⟩
  have hb1 : w.heap.size ≤ W1.heap.size := by have := Z1.out; omega
  have S2 := Lib.hid hS2
  have Gt2 := Lib.hid (hG2.mono (b2 := w.heap.size) (by omega))
  have G2 : Hid (Gr w w2) := Lib.hid ⟨hF2.os.trans G1.out.os, hF2.tape.trans G1.out.tape, hF2.output.trans G1.out.output, Nat.le_trans hb1 hF2.size, fun k hk => (hF2.block k (by omega) (by omega)).trans (G1.out.block k hk)⟩
  clear hS2 hG2 hF2
  go_wp2_with fail
  refine (HF.out _).mono ?_
  rintro e w3 ⟨rfl, g3⟩
  have S3 := Lib.hid (S2.out.gr g3)
  have Gt3 := Lib.hid (Gt2.out.gr g3)
  have G3 := Lib.hid (G2.out.trans g3)
  clear g3
  obtain ⟨ao, cap, rfl⟩ := ownsRow_shape Gt3.out.tokR
  obtain ⟨c0, c1, c2, c3, c4, c5, c6, c7, cf⟩ := S3.out.cells
  have hn1 : (toks.length : Int) ≤ 1000 := by have := Hn.out; omega
  have hn2 : ¬ (1000 : Int) < (toks.length : Int) := by omega
  have hn3 : decide ((1000 : Int) < (toks.length : Int)) = false := by simp; omega
  clear hn1
  go_wp2_with fail
  refine bodyPost_ret (v := .tuple #[.pointer (some ⟨w.heap.size + 1, 0, none⟩), .int .i64 0, .int .i64 0]) (by simp [results, Tryd.results9, go_sem]) rfl ?_
  exact ⟨_, _, _, _, _, _, _, rfl, S3.out, Gt3.out, G3.out⟩
set_option maxRecDepth 100000 in
set_option maxHeartbeats 2000000 in
theorem lex_p (hs : s.size ≤ 4000) (hS : Steps s 0 0 true toks terms) (hn : toks.length ≤ 1000 ∧ terms.length ≤ 4000) (hO : ∀ n (h : n < s.data.toList.length), ownB (s.data.toList[n].toNat : Int) = true) (w : World) :
    Calls Tryd.prog 6 #[.string s] w fun e w' => ∃ tv, e = .returned (.tuple #[tv, .int .i64 toks.length, .int .i64 0]) ∧ OwnT w' w.heap.size tv toks ∧ Gr w w' := by
  have HF := Lib.hid (fun w => scan_p hs hS hn hO w)
  clear hS hO hn
  go_enter Tryd.func6, Tryd.ntmps6
  go_wp2_with fail
  refine (HF.out _).mono ?_
  rintro e w3 ⟨P, M, a2, e2, t2, tv, bv, rfl, hS3, hG3, g3⟩
  have S3 := Lib.hid hS3
  have Gt3 := Lib.hid hG3
  have G3 := Lib.hid g3
  clear g3 hS3 hG3
  obtain ⟨ao, cap, rfl⟩ := ownsRow_shape Gt3.out.tokR
  obtain ⟨c0, c1, c2, c3, c4, c5, c6, c7, cf⟩ := S3.out.cells
  go_wp2_with fail
  go_quiet (fail)
  go_wp2_with fail
  refine bodyPost_ret (v := .tuple #[.slice ao toks.length cap, .int .i64 (toks.length : Int), .int .i64 0]) (by simp [results, Tryd.results6, go_sem]) rfl ?_
  exact ⟨_, rfl, ownsRow_gr Gt3.out.tokR ((Gr.refl w3).drewN _), G3.out.drewN _⟩
end Go.Proofs.YthmopindibdhnaaDoor
namespace Go.Proofs.YthmopindibdhnaaDoor
open Go.RowKit Go.Shelf
variable {w : World} {P M : Nat} {s : ByteArray} {a en : Nat} {tm : Bool} {tv bv ov : Value} {x o e : UInt8}
theorem baE {a b : ByteArray} (h : a.data.toList = b.data.toList) : a = b := by
  obtain ⟨⟨a⟩⟩ := a
  obtain ⟨⟨b⟩⟩ := b
  simp at h
  rw [h]
theorem T_var (hs : s.size ≤ 4000) (hx : s.data.toList[a]? = some x) (hq : quoteL (s.data.toList.drop a) = none) (hh : Lib.hasPrefix (s.data.toList.drop a) [60, 60] = false) (hn : sigilB x.toNat = true) (n : Nat) (hw : wordN (s.data.toList.drop (a + 1)) = n) (h0 : 0 < n) (h12 : n ≤ 12) :
    Token P M s a (a + (1 + n)) en true tv bv ov (tok 2 (s.extract a (a + (1 + n)))) := by
  have hl : a < s.size := by rw [← sizeL]; exact (List.getElem?_eq_some_iff.1 hx).1
  have hl2 := wordN_le (s.data.toList.drop (a + 1))
  rw [hw, List.length_drop, sizeL] at hl2
  exact fun W h => token_variable h (fun W h => quote_no h (by omega) (by omega) hq) (fun W h => heredoc_no h (by omega) hh) (fun W h => variable_yes h (by omega) (by omega) x hx hn n hw h0 h12)
theorem T_word (hs : s.size ≤ 4000) (hx : s.data.toList[a]? = some x) (hq : quoteL (s.data.toList.drop a) = none) (hh : Lib.hasPrefix (s.data.toList.drop a) [60, 60] = false) (hn : sigilB x.toNat = false) (ha : alphaB x.toNat = true) (n : Nat) (hw : wordN (s.data.toList.drop a) = n) (h12 : n ≤ 12) :
    Token P M s a (a + n) en true tv bv ov (tok 0 (s.extract a (a + n))) := by
  have hl : a < s.size := by rw [← sizeL]; exact (List.getElem?_eq_some_iff.1 hx).1
  exact fun W h => token_word_t h hx ha (fun W h => quote_no h (by omega) (by omega) hq) (fun W h => heredoc_no h (by omega) hh) (fun W h => variable_no h hl (by omega) x hx hn) (fun W h => word_m h (by omega) n hw h12 (by omega))
theorem T_num (hs : s.size ≤ 4000) (hx : s.data.toList[a]? = some x) (hq : quoteL (s.data.toList.drop a) = none) (hh : Lib.hasPrefix (s.data.toList.drop a) [60, 60] = false) (hn : sigilB x.toNat = false) (ha : alphaB x.toNat = false) (hd : digB x.toNat = true) (n : Nat) (hw : digR s.data.toList s.size (a + 1) = n) :
    Token P M s a n en true tv bv ov (tok 1 (s.extract a n)) := by
  have hl : a < s.size := by rw [← sizeL]; exact (List.getElem?_eq_some_iff.1 hx).1
  exact fun W h => token_number_t h hx ha hd (fun W h => quote_no h (by omega) (by omega) hq) (fun W h => heredoc_no h (by omega) hh) (fun W h => variable_no h hl (by omega) x hx hn) (fun W h => by rw [← hw]; exact number_m h hl (by omega))
theorem T_sign (hs : s.size ≤ 4000) (hx : s.data.toList[a]? = some x) (ha : alphaB x.toNat = false) (hd : digB x.toNat = false) (n : Nat) (hw : signN (s.data.toList.drop a) = n) (h0 : 0 < n) :
    Token P M s a (a + n) en false tv bv ov (tok 3 (s.extract a (a + n))) := by
  have hl : a < s.size := by rw [← sizeL]; exact (List.getElem?_eq_some_iff.1 hx).1
  exact fun W h => token_sign_f h hx ha hd (fun W h => sign_m h (by omega) (by omega) n hw h0)
theorem T_pat {f m : Nat} (hs : s.size ≤ 4000) (hat : a ≤ s.size) (k : Nat) (hq : quoteL (s.data.toList.drop a) = some (7, k)) (ho : s.data.toList[a + k]? = some o) (he : (e.toNat : Int) = partI o.toNat) (he92 : e ≠ 92) (ho92 : o ≠ 92)
    (hm : endR s.data.toList o e f 0 (a + k + 1) = some m) (n : Nat) (hn : flagN s.data.toList (m + 1) [105, 109, 115, 120, 103] 0 = n) :
    Token P M s a (m + 1 + n) en true tv bv ov ⟨7, 0, ⟨(wsL ((s.data.toList.drop (a + k + 1)).take (m - (a + k + 1)))).toArray⟩, ⟨#[]⟩, s.extract (m + 1) (m + 1 + n), 0⟩ := by
  refine fun W h => token_quote h (fun W h => (quote_pat h hat (by omega) k hq ho he he92 ho92 hm n hn).mono ?_)
  rintro e w' ⟨q, hq, rfl, h1, h2⟩
  have : q = ⟨(wsL ((s.data.toList.drop (a + k + 1)).take (m - (a + k + 1)))).toArray⟩ := baE (by rw [hq])
  rw [this]
  exact ⟨rfl, h1, h2⟩
def srcA : ByteArray := ⟨#[36, 120, 32, 47, 32, 50]⟩
def toksA : List Tok := [⟨2, ((0 : Nat) : Int), ⟨#[36, 120]⟩, ⟨#[]⟩, ⟨#[]⟩, 0⟩, ⟨3, ((3 : Nat) : Int), ⟨#[47]⟩, ⟨#[]⟩, ⟨#[]⟩, 0⟩, ⟨1, ((5 : Nat) : Int), ⟨#[50]⟩, ⟨#[]⟩, ⟨#[]⟩, 0⟩]
def srcB : ByteArray := ⟨#[102, 40, 47, 50, 47, 41]⟩
def toksB : List Tok := [⟨0, ((0 : Nat) : Int), ⟨#[102]⟩, ⟨#[]⟩, ⟨#[]⟩, 0⟩, ⟨3, ((1 : Nat) : Int), ⟨#[40]⟩, ⟨#[]⟩, ⟨#[]⟩, 0⟩, ⟨7, ((2 : Nat) : Int), ⟨#[50]⟩, ⟨#[]⟩, ⟨#[]⟩, 0⟩, ⟨3, ((5 : Nat) : Int), ⟨#[41]⟩, ⟨#[]⟩, ⟨#[]⟩, 0⟩]
theorem stepsA : Steps srcA 0 0 true toksA [true, false, true] := by
  have h1 : ∀ P M tv bv ov, Token P M srcA 0 2 0 true tv bv ov (tok 2 ⟨#[36, 120]⟩) := fun P M tv bv ov => T_var (x := 36) (s := srcA) (a := 0) (by decide) (by rfl) (by rfl) (by rfl) (by rfl) 1 (by rfl) (by decide) (by decide)
  have h2 : ∀ P M tv bv ov, Token P M srcA 3 4 2 false tv bv ov (tok 3 ⟨#[47]⟩) := fun P M tv bv ov => T_sign (x := 47) (s := srcA) (a := 3) (by decide) (by rfl) (by rfl) (by rfl) 1 (by rfl) (by decide)
  have h3 : ∀ P M tv bv ov, Token P M srcA 5 6 4 true tv bv ov (tok 1 ⟨#[50]⟩) := fun P M tv bv ov => T_num (x := 50) (s := srcA) (a := 5) (by decide) (by rfl) (by rfl) (by rfl) (by rfl) (by rfl) (by rfl) 6 (by rfl)
  have hl : srcA.data.toList = [36, 120, 32, 47, 32, 50] := rfl
  refine .tok (a := 0) (b := 2) (Nat.le_refl _) (by decide) (fun n _ h => absurd h (by omega)) (by decide) (by decide) h1 (by decide) (by decide) ?_
  refine .tok (a := 3) (b := 4) (by decide) (by decide) (fun n _ h _ => ?_) (by decide) (by decide) h2 (by decide) (by decide) ?_
  · obtain rfl : n = 2 := by omega
    rfl
  refine .tok (a := 5) (b := 6) (by decide) (by decide) (fun n _ h _ => ?_) (by decide) (by decide) h3 (by decide) (by decide) ?_
  · obtain rfl : n = 4 := by omega
    rfl
  exact .done (by decide) (fun n _ h => by rw [hl] at h; simp at h; omega)
theorem stepsB : Steps srcB 0 0 true toksB [true, false, true, false] := by
  have h1 : ∀ P M tv bv ov, Token P M srcB 0 1 0 true tv bv ov (tok 0 ⟨#[102]⟩) := fun P M tv bv ov => T_word (x := 102) (s := srcB) (a := 0) (by decide) (by rfl) (by rfl) (by rfl) (by rfl) (by rfl) 1 (by rfl) (by decide)
  have h2 : ∀ P M tv bv ov, Token P M srcB 1 2 1 false tv bv ov (tok 3 ⟨#[40]⟩) := fun P M tv bv ov => T_sign (x := 40) (s := srcB) (a := 1) (by decide) (by rfl) (by rfl) (by rfl) 1 (by rfl) (by decide)
  have h3 : ∀ P M tv bv ov, Token P M srcB 2 5 2 true tv bv ov ⟨7, 0, ⟨#[50]⟩, ⟨#[]⟩, ⟨#[]⟩, 0⟩ := fun P M tv bv ov => T_pat (o := 47) (e := 47) (s := srcB) (a := 2) (f := 10) (m := 4) (by decide) (by decide) 0 (by rfl) (by rfl) (by rfl) (by decide) (by decide) (by rfl) 0 (by rfl)
  have h4 : ∀ P M tv bv ov, Token P M srcB 5 6 5 false tv bv ov (tok 3 ⟨#[41]⟩) := fun P M tv bv ov => T_sign (x := 41) (s := srcB) (a := 5) (by decide) (by rfl) (by rfl) (by rfl) 1 (by rfl) (by decide)
  have hl : srcB.data.toList = [102, 40, 47, 50, 47, 41] := rfl
  refine .tok (a := 0) (b := 1) (Nat.le_refl _) (by decide) (fun n _ h => absurd h (by omega)) (by decide) (by decide) h1 (by decide) (by decide) ?_
  refine .tok (a := 1) (b := 2) (by decide) (by decide) (fun n _ h _ => by omega) (by decide) (by decide) h2 (by decide) (by decide) ?_
  refine .tok (a := 2) (b := 5) (by decide) (by decide) (fun n _ h _ => by omega) (by decide) (by decide) h3 (by decide) (by decide) ?_
  refine .tok (a := 5) (b := 6) (by decide) (by decide) (fun n _ h _ => by omega) (by decide) (by decide) h4 (by decide) (by decide) ?_
  exact .done (by decide) (fun n _ h => by rw [hl] at h; simp at h; omega)
theorem own_cell {base e size n : Nat} {v : Value} {xs : List Value} (h : w.ownsRow base e size v n xs) (hn : n ≠ 0) : ∃ g cap, v = .slice (some ⟨g, 0, none⟩) n cap ∧ base ≤ g ∧ g < w.heap.size ∧ n ≤ cap ∧ ∀ j u, xs[j]? = some u → w.cell? ⟨g, j, none⟩ = some u := by
  obtain ⟨h1, h2⟩ := h
  rcases h2 with ⟨_, h2⟩ | ⟨g, cap, cur, rfl, hg, hh, hc, hm, hs, ht⟩
  · exact absurd h2 hn
  · refine ⟨g, cap, rfl, hg, (Array.getElem?_eq_some_iff.1 hh).1, hc, fun j u hj => ?_⟩
    rw [← ht] at hj
    have hj2 : j < n * size := by
      have := (List.getElem?_eq_some_iff.1 hj).1
      simp at this
      omega
    rw [List.getElem?_take_of_lt hj2] at hj
    simp [World.cell?, hh]
    simpa using hj
theorem lexA (w : World) : Calls Tryd.prog 6 #[.string ⟨#[36, 120, 32, 47, 32, 50]⟩] w fun e w' => ∃ g cap, e = .returned (.tuple #[.slice (some ⟨g, 0, none⟩) 3 cap, .int .i64 3, .int .i64 0]) ∧ g < w'.heap.size ∧ w'.cell? ⟨g, 6, none⟩ = some (.int .i64 3) ∧ w'.cell? ⟨g, 8, none⟩ = some (.string ⟨#[47]⟩) ∧ Gr w w' := by
  refine (lex_p (s := srcA) (by decide) stepsA (by decide) (fun n h => ?_) w).mono ?_
  · have hl : srcA.data.toList = [36, 120, 32, 47, 32, 50] := rfl
    have h' := h
    rw [hl] at h'
    simp at h'
    have : n = 0 ∨ n = 1 ∨ n = 2 ∨ n = 3 ∨ n = 4 ∨ n = 5 := by omega
    rcases this with rfl | rfl | rfl | rfl | rfl | rfl <;> rfl
  · rintro e w2 ⟨tv, rfl, ho, g⟩
    obtain ⟨b, cap, rfl, _, hb, _, hc⟩ := own_cell ho (by decide)
    exact ⟨b, cap, rfl, hb, hc 6 _ rfl, hc 8 _ rfl, g⟩
theorem lexB (w : World) : Calls Tryd.prog 6 #[.string ⟨#[102, 40, 47, 50, 47, 41]⟩] w fun e w' => ∃ g cap, e = .returned (.tuple #[.slice (some ⟨g, 0, none⟩) 4 cap, .int .i64 4, .int .i64 0]) ∧ g < w'.heap.size ∧ w'.cell? ⟨g, 12, none⟩ = some (.int .i64 7) ∧ w'.cell? ⟨g, 14, none⟩ = some (.string ⟨#[50]⟩) ∧ Gr w w' := by
  refine (lex_p (s := srcB) (by decide) stepsB (by decide) (fun n h => ?_) w).mono ?_
  · have hl : srcB.data.toList = [102, 40, 47, 50, 47, 41] := rfl
    have h' := h
    rw [hl] at h'
    simp at h'
    have : n = 0 ∨ n = 1 ∨ n = 2 ∨ n = 3 ∨ n = 4 ∨ n = 5 := by omega
    rcases this with rfl | rfl | rfl | rfl | rfl | rfl <;> rfl
  · rintro e w2 ⟨tv, rfl, ho, g⟩
    obtain ⟨b, cap, rfl, _, hb, _, hc⟩ := own_cell ho (by decide)
    exact ⟨b, cap, rfl, hb, hc 12 _ rfl, hc 14 _ rfl, g⟩
theorem cell_gr {w' : World} {g j : Nat} (h : Gr w w') (hg : g < w.heap.size) : w'.cell? ⟨g, j, none⟩ = w.cell? ⟨g, j, none⟩ := by
  simp only [World.cell?, h.block _ hg]
set_option maxRecDepth 100000 in
set_option maxHeartbeats 2000000 in
theorem known_l (w : World) : Calls Tryd.prog 5 #[] w fun e w' => e = .returned (.bool true) ∧ Gr w w' := by
  have HA := Lib.hid (fun w => lexA w)
  have HB := Lib.hid (fun w => lexB w)
  go_enter Tryd.func5, Tryd.ntmps5
  go_wp2_with fail
  refine (HA.out _).mono ?_
  rintro e w2 ⟨g, cap, rfl, hb, k1, k2, g2⟩
  have Hb := Lib.hid hb
  have K1 := Lib.hid k1
  have K2 := Lib.hid k2
  have G2 := Lib.hid g2
  clear hb k1 k2 g2
  go_wp2_with fail
  refine (HB.out _).mono ?_
  rintro e w3 ⟨g', cap', rfl, hb', k3, k4, g3⟩
  have k1 := (cell_gr (j := 6) g3 Hb.out).trans K1.out
  have k2 := (cell_gr (j := 8) g3 Hb.out).trans K2.out
  have G3 := Lib.hid (G2.out.trans g3)
  clear g3 hb' K1 K2 Hb
  go_wp2
  go_ret
  exact ⟨rfl, G3.out⟩
end Go.Proofs.YthmopindibdhnaaDoor
namespace Go.Proofs.YthmopindibdhnaaDoor.G
open Go.RowKit Go.Shelf Go.Maps
theorem partU_int (o : UInt8) : ((partU o).toNat : Int) = partI o.toNat := by
  have h : ∀ n < 256, (((partI ((UInt8.ofNat n).toNat : Int)).toNat.toUInt8).toNat : Int) = partI ((UInt8.ofNat n).toNat : Int) := by decide +kernel
  have := h o.toNat (UInt8.toNat_lt o)
  rw [UInt8.ofNat_toNat] at this
  exact this
theorem partU_ne {o : UInt8} (h : delimB o.toNat = true) : o ≠ 92 ∧ partU o ≠ 92 := by
  have h2 : ∀ n < 256, delimB ((UInt8.ofNat n).toNat : Int) = true → UInt8.ofNat n ≠ 92 ∧ partU (UInt8.ofNat n) ≠ 92 := by decide +kernel
  have := h2 o.toNat (UInt8.toNat_lt o)
  rw [UInt8.ofNat_toNat] at this
  exact this h
/-- a byte is a delimiter of a quote that another one begins -/
def delsB (c o : UInt8) : Bool := c == o || c == partU o
theorem dels_p (c o : UInt8) (w : World) : Calls Tryd.prog 76 #[.int .u8 (c.toNat : Int), .int .u8 (o.toNat : Int)] w fun e w' => e = .returned (.bool (delsB c o)) ∧ w = w' := by
  have HP := Lib.hid (fun w => part_p (o.toNat : Int) w)
  rw [← partU_int] at HP
  unfold delsB
  by_cases h : c = o
  · have t0 : ((c.toNat : Int) == (o.toNat : Int)) = true := by rw [h]; simp
    have t1 : (c == o) = true := by rw [h]; simp
    rw [t1]
    clear h t1
    go_enter Tryd.func76, Tryd.ntmps76
    go_wp2
    go_ret
    exact ⟨rfl, rfl⟩
  · have t0 : ((c.toNat : Int) == (o.toNat : Int)) = false := u8_ne h
    have t1 : (c == o) = false := by simpa using h
    have t2 : ((c.toNat : Int) == ((partU o).toNat : Int)) = (c == partU o) := by
      by_cases h2 : c = partU o
      · rw [h2]; simp
      · rw [u8_ne h2]; symm; simpa using h2
    rw [t1]
    generalize partU o = q at *
    clear h t1
    have T2 := Lib.hid t2
    clear t2
    go_enter Tryd.func76, Tryd.ntmps76
    go_wp2_with fail
    refine (HP.out _).mono ?_
    rintro e w1 ⟨rfl, rfl⟩
    go_wp2
    go_ret
    exact ⟨by rw [Bool.false_or, ← T2.out]; rfl, rfl⟩
def PieceG (K B : Nat) (o : UInt8) (g : List UInt8 → List UInt8) : Prop := ∀ (p : ByteArray) (W : World), W.cell? ⟨B, 0, none⟩ = some (.int .u8 (o.toNat : Int)) → Calls Tryd.prog K #[.string p, .pointer (some ⟨B, 0, none⟩)] W fun e w' => ∃ q : ByteArray, q.data.toList = g p.data.toList ∧ e = .returned (.string q) ∧ Gr W w'
set_option maxRecDepth 100000 in
set_option maxHeartbeats 1000000 in
theorem each_pl {B : Nat} {o : UInt8} (g : List UInt8 → List UInt8) (hg : ∀ p, (g p).length ≤ 2 * p.length) (hP : PieceG 80 B o g) (s : ByteArray) (hs : s.size ≤ 1000000) (w : World) (hB0 : B < w.heap.size) (hcell : w.cell? ⟨B, 0, none⟩ = some (.int .u8 (o.toNat : Int))) :
    Calls Tryd.prog 74 #[.string s, .func (.func 80) #[] #[.pointer (some ⟨B, 0, none⟩)]] w fun e w' => ∃ q : ByteArray, q.data.toList = eachL g s.size s.data.toList ∧ e = .returned (.string q) ∧ Gr w w' := by
  have HP := Lib.hid hP
  have HC := Lib.hid (fun (W : World) (g : Gr w W) => (cell_gr (j := 0) g hB0).trans hcell)
  clear hB0 hcell
  have HG := Lib.hid hg
  obtain ⟨R, hR⟩ : ∃ R, R = eachL g s.size s.data.toList := ⟨_, rfl⟩
  rw [← hR]
  have HR : Hid (R = [] ++ eachL g s.size s.data.toList) := Lib.hid (by rw [hR]; rfl)
  clear hR hP hg
  go_enter Tryd.func74, Tryd.ntmps74
  go_wp2_with fail
  generalize hW : w.alloc (.cells #[.pointer none, .slice none 0 0] 48) = W1
  have G1 : Hid (Gr w W1) := Lib.hid (by rw [← hW]; exact (Gr.refl w).alloc _)
  have hBl : Hid (Bld w.heap.size [] W1) := Lib.hid (by rw [← hW]; exact bld_new w)
  have hsz1 : Hid (W1.heap.size = w.heap.size + 1) := Lib.hid (by rw [← hW]; simp)
  clear hW
  go_loopw [0, 6] (fun v _ wr => ∃ (r : ByteArray) (acc : List UInt8) (f : Nat), v = .string r ∧ r.size ≤ f ∧ acc.length + 2 * r.size ≤ 2 * s.size ∧ Bld w.heap.size acc wr ∧ Gr w wr ∧ w.heap.size + 1 ≤ wr.heap.size ∧ Hid (R = acc ++ eachL g f r.data.toList)) (fun v _ _ => strLen v)
  case atStart => exact ⟨s, [], s.size, rfl, Nat.le_refl _, by simp, hBl.out, G1.out, by rw [hsz1.out]; exact Nat.le_refl _, HR⟩
  case round =>
    obtain ⟨r, acc, f, rfl, hf, ha, hB, hG, hZ, hR⟩ := hrel
    clear HR hBl hsz1 G1
    have Bl := Lib.hid hB
    have Gg := Lib.hid hG
    have Z := Lib.hid hZ
    clear hB hG hZ
    by_cases h0 : 0 < r.size
    · have hc0 : (0 : Int) < (r.size : Int) := by omega
      have hL0 : 0 < r.data.toList.length := by rw [sizeL]; exact h0
      have e0 := byteE r 0 h0 hL0
      obtain ⟨f, rfl⟩ : ∃ f', f = f' + 1 := ⟨f - 1, by omega⟩
      by_cases h1 : r.data.toList[0] = 92 ∧ 1 < r.data.toList.length
      · have hE := Lib.hid (eachL_two (g := g) (f := f) h1.2 h1.1)
        have h92 : ((r.data.toList[0].toNat : Int) == 92) = true := by rw [h1.1]; rfl
        have h2 : 1 < r.size := by have := h1.2; rw [sizeL] at this; exact this
        have hc1 : (1 : Int) < (r.size : Int) := by omega
        have hc2 : (2 : Int) ≤ (r.size : Int) := by omega
        have hp := HP.out (r.extract 0 2)
        have hx2 : (r.extract 0 2).data.toList = r.data.toList.take 2 := by rw [extractE]; simp
        rw [hx2] at hp
        have hd2 : (r.extract 2 r.size).data.toList = r.data.toList.drop 2 := dropE r 2
        have hd2s : (r.extract 2 r.size).size = r.size - 2 := by simp [ByteArray.size_extract]
        have hgl := HG.out (r.data.toList.take 2)
        rw [List.length_take, sizeL] at hgl
        have HPp := Lib.hid hp
        have Hd := Lib.hid hd2
        have Hds := Lib.hid hd2s
        have Hgl := Lib.hid hgl
        generalize r.data.toList[0] = x at *
        clear h1 hp hx2 hd2 hd2s hgl h2
        go_wp2_with fail
        refine (HPp.out _ (HC.out _ Gg.out)).mono ?_
        rintro e1 w2 ⟨q, hq, rfl, g2⟩
        have G2 := Lib.hid (Gr.trans Gg.out g2)
        have B2 := Lib.hid (Bld.gr' Bl.out g2)
        have Z2 : Hid (w.heap.size + 1 ≤ w2.heap.size) := Lib.hid (Nat.le_trans Z.out g2.size)
        have Hq := Lib.hid hq
        have Hqs : Hid (q.size ≤ 4) := Lib.hid (by have h3 := Hgl.out; rw [← sizeL, hq]; omega)
        clear g2 Gg Bl Z hq HPp
        go_wp2_with fail
        refine (bld_string q B2.out (by have := Hqs.out; omega) (by have := Z2.out; omega)).mono ?_
        rintro e2 w3 ⟨rfl, hl3, hb3, _⟩
        have G3 := Lib.hid (Gr.below' G2.out hb3)
        have B3 := Lib.hid hl3
        have Z3 : Hid (w.heap.size + 1 ≤ w3.heap.size) := Lib.hid (Nat.le_trans Z2.out hb3.size)
        clear hl3 hb3 G2 B2 Z2
        go_wp2_with fail
        go_roundw
        case rel =>
          have e3 := Hqs.out
          have e4 := Hds.out
          exact ⟨r.extract 2 r.size, acc ++ q.data.toList, f, rfl, by omega, by rw [List.length_append, sizeL]; omega, B3.out, G3.out, Z3.out, Lib.hid (by rw [hR.out, hE.out, Hd.out, Hq.out, List.append_assoc])⟩
        case measure => have e4 := Hds.out; simp only [strLen]; omega
      · have hE := Lib.hid (eachL_one (g := g) (f := f) hL0 h1)
        have hc1 : (1 : Int) ≤ (r.size : Int) := by omega
        have hp := HP.out (r.extract 0 1)
        have hx2 : (r.extract 0 1).data.toList = r.data.toList.take 1 := by rw [extractE]; simp
        rw [hx2] at hp
        have hd2 : (r.extract 1 r.size).data.toList = r.data.toList.drop 1 := dropE r 1
        have hd2s : (r.extract 1 r.size).size = r.size - 1 := by simp [ByteArray.size_extract]
        have hgl := HG.out (r.data.toList.take 1)
        rw [List.length_take, sizeL] at hgl
        have HPp := Lib.hid hp
        have Hd := Lib.hid hd2
        have Hds := Lib.hid hd2s
        have Hgl := Lib.hid hgl
        have hcase : ((r.data.toList[0].toNat : Int) == 92) = false ∨ (((r.data.toList[0].toNat : Int) == 92) = true ∧ decide (1 < r.size) = false ∧ decide ((1 : Int) < (r.size : Int)) = false) := by
          by_cases h5 : r.data.toList[0] = 92
          · refine .inr ⟨by rw [h5]; rfl, ?_, ?_⟩
            · have : ¬ 1 < r.data.toList.length := fun h6 => h1 ⟨h5, h6⟩
              rw [sizeL] at this; simp; omega
            · have : ¬ 1 < r.data.toList.length := fun h6 => h1 ⟨h5, h6⟩
              rw [sizeL] at this; simp; omega
          · exact .inl (u8_lit h5)
        generalize r.data.toList[0] = x at *
        clear h1 hp hx2 hd2 hd2s hgl
        rcases hcase with h92 | ⟨h92, hlt, hlt'⟩
        · go_wp2_with fail
          refine (HPp.out _ (HC.out _ Gg.out)).mono ?_
          rintro e1 w2 ⟨q, hq, rfl, g2⟩
          have G2 := Lib.hid (Gr.trans Gg.out g2)
          have B2 := Lib.hid (Bld.gr' Bl.out g2)
          have Z2 : Hid (w.heap.size + 1 ≤ w2.heap.size) := Lib.hid (Nat.le_trans Z.out g2.size)
          have Hq := Lib.hid hq
          have Hqs : Hid (q.size ≤ 2) := Lib.hid (by have h3 := Hgl.out; rw [← sizeL, hq]; omega)
          clear g2 Gg Bl Z hq HPp
          go_wp2_with fail
          refine (bld_string q B2.out (by have := Hqs.out; omega) (by have := Z2.out; omega)).mono ?_
          rintro e2 w3 ⟨rfl, hl3, hb3, _⟩
          have G3 := Lib.hid (Gr.below' G2.out hb3)
          have B3 := Lib.hid hl3
          have Z3 : Hid (w.heap.size + 1 ≤ w3.heap.size) := Lib.hid (Nat.le_trans Z2.out hb3.size)
          clear hl3 hb3 G2 B2 Z2
          go_wp2_with fail
          go_roundw
          case rel =>
            have e3 := Hqs.out
            have e4 := Hds.out
            exact ⟨r.extract 1 r.size, acc ++ q.data.toList, f, rfl, by omega, by rw [List.length_append, sizeL]; omega, B3.out, G3.out, Z3.out, Lib.hid (by rw [hR.out, hE.out, Hd.out, Hq.out, List.append_assoc])⟩
          case measure => have e4 := Hds.out; simp only [strLen]; omega
        · go_wp2_with fail
          refine (HPp.out _ (HC.out _ Gg.out)).mono ?_
          rintro e1 w2 ⟨q, hq, rfl, g2⟩
          have G2 := Lib.hid (Gr.trans Gg.out g2)
          have B2 := Lib.hid (Bld.gr' Bl.out g2)
          have Z2 : Hid (w.heap.size + 1 ≤ w2.heap.size) := Lib.hid (Nat.le_trans Z.out g2.size)
          have Hq := Lib.hid hq
          have Hqs : Hid (q.size ≤ 2) := Lib.hid (by have h3 := Hgl.out; rw [← sizeL, hq]; omega)
          clear g2 Gg Bl Z hq HPp
          go_wp2_with fail
          refine (bld_string q B2.out (by have := Hqs.out; omega) (by have := Z2.out; omega)).mono ?_
          rintro e2 w3 ⟨rfl, hl3, hb3, _⟩
          have G3 := Lib.hid (Gr.below' G2.out hb3)
          have B3 := Lib.hid hl3
          have Z3 : Hid (w.heap.size + 1 ≤ w3.heap.size) := Lib.hid (Nat.le_trans Z2.out hb3.size)
          clear hl3 hb3 G2 B2 Z2
          go_wp2_with fail
          go_roundw
          case rel =>
            have e3 := Hqs.out
            have e4 := Hds.out
            exact ⟨r.extract 1 r.size, acc ++ q.data.toList, f, rfl, by omega, by rw [List.length_append, sizeL]; omega, B3.out, G3.out, Z3.out, Lib.hid (by rw [hR.out, hE.out, Hd.out, Hq.out, List.append_assoc])⟩
          case measure => have e4 := Hds.out; simp only [strLen]; omega
    · have E : Hid (R = acc) := Lib.hid (by rw [hR.out, show r.data.toList = [] from List.length_eq_zero_iff.1 (by rw [sizeL]; omega), eachL_nil, List.append_nil])
      have hr0 : r.size = 0 := by omega
      have hc0 : decide (0 < r.size) = false := by rw [hr0]; rfl
      clear hR h0 hr0
      go_wp2_with fail
      refine (bld_text Bl.out (by have := Z.out; omega)).mono ?_
      rintro e2 w3 ⟨rfl, hb3⟩
      have G3 := Lib.hid (Gr.below' Gg.out hb3)
      clear hb3
      go_wp2
      go_ret
      exact ⟨_, by rw [E.out], rfl, G3.out⟩
set_option maxRecDepth 100000 in
set_option maxHeartbeats 1000000 in
theorem each_in {B : Nat} {o : UInt8} (g : List UInt8 → List UInt8) (hg : ∀ p, (g p).length ≤ 2 * p.length) (hP : PieceG 75 B o g) (s : ByteArray) (hs : s.size ≤ 1000000) (w : World) (hB0 : B < w.heap.size) (hcell : w.cell? ⟨B, 0, none⟩ = some (.int .u8 (o.toNat : Int))) :
    Calls Tryd.prog 74 #[.string s, .func (.func 75) #[] #[.pointer (some ⟨B, 0, none⟩)]] w fun e w' => ∃ q : ByteArray, q.data.toList = eachL g s.size s.data.toList ∧ e = .returned (.string q) ∧ Gr w w' := by
  have HP := Lib.hid hP
  have HC := Lib.hid (fun (W : World) (g : Gr w W) => (cell_gr (j := 0) g hB0).trans hcell)
  clear hB0 hcell
  have HG := Lib.hid hg
  obtain ⟨R, hR⟩ : ∃ R, R = eachL g s.size s.data.toList := ⟨_, rfl⟩
  rw [← hR]
  have HR : Hid (R = [] ++ eachL g s.size s.data.toList) := Lib.hid (by rw [hR]; rfl)
  clear hR hP hg
  go_enter Tryd.func74, Tryd.ntmps74
  go_wp2_with fail
  generalize hW : w.alloc (.cells #[.pointer none, .slice none 0 0] 48) = W1
  have G1 : Hid (Gr w W1) := Lib.hid (by rw [← hW]; exact (Gr.refl w).alloc _)
  have hBl : Hid (Bld w.heap.size [] W1) := Lib.hid (by rw [← hW]; exact bld_new w)
  have hsz1 : Hid (W1.heap.size = w.heap.size + 1) := Lib.hid (by rw [← hW]; simp)
  clear hW
  go_loopw [0, 6] (fun v _ wr => ∃ (r : ByteArray) (acc : List UInt8) (f : Nat), v = .string r ∧ r.size ≤ f ∧ acc.length + 2 * r.size ≤ 2 * s.size ∧ Bld w.heap.size acc wr ∧ Gr w wr ∧ w.heap.size + 1 ≤ wr.heap.size ∧ Hid (R = acc ++ eachL g f r.data.toList)) (fun v _ _ => strLen v)
  case atStart => exact ⟨s, [], s.size, rfl, Nat.le_refl _, by simp, hBl.out, G1.out, by rw [hsz1.out]; exact Nat.le_refl _, HR⟩
  case round =>
    obtain ⟨r, acc, f, rfl, hf, ha, hB, hG, hZ, hR⟩ := hrel
    clear HR hBl hsz1 G1
    have Bl := Lib.hid hB
    have Gg := Lib.hid hG
    have Z := Lib.hid hZ
    clear hB hG hZ
    by_cases h0 : 0 < r.size
    · have hc0 : (0 : Int) < (r.size : Int) := by omega
      have hL0 : 0 < r.data.toList.length := by rw [sizeL]; exact h0
      have e0 := byteE r 0 h0 hL0
      obtain ⟨f, rfl⟩ : ∃ f', f = f' + 1 := ⟨f - 1, by omega⟩
      by_cases h1 : r.data.toList[0] = 92 ∧ 1 < r.data.toList.length
      · have hE := Lib.hid (eachL_two (g := g) (f := f) h1.2 h1.1)
        have h92 : ((r.data.toList[0].toNat : Int) == 92) = true := by rw [h1.1]; rfl
        have h2 : 1 < r.size := by have := h1.2; rw [sizeL] at this; exact this
        have hc1 : (1 : Int) < (r.size : Int) := by omega
        have hc2 : (2 : Int) ≤ (r.size : Int) := by omega
        have hp := HP.out (r.extract 0 2)
        have hx2 : (r.extract 0 2).data.toList = r.data.toList.take 2 := by rw [extractE]; simp
        rw [hx2] at hp
        have hd2 : (r.extract 2 r.size).data.toList = r.data.toList.drop 2 := dropE r 2
        have hd2s : (r.extract 2 r.size).size = r.size - 2 := by simp [ByteArray.size_extract]
        have hgl := HG.out (r.data.toList.take 2)
        rw [List.length_take, sizeL] at hgl
        have HPp := Lib.hid hp
        have Hd := Lib.hid hd2
        have Hds := Lib.hid hd2s
        have Hgl := Lib.hid hgl
        generalize r.data.toList[0] = x at *
        clear h1 hp hx2 hd2 hd2s hgl h2
        go_wp2_with fail
        refine (HPp.out _ (HC.out _ Gg.out)).mono ?_
        rintro e1 w2 ⟨q, hq, rfl, g2⟩
        have G2 := Lib.hid (Gr.trans Gg.out g2)
        have B2 := Lib.hid (Bld.gr' Bl.out g2)
        have Z2 : Hid (w.heap.size + 1 ≤ w2.heap.size) := Lib.hid (Nat.le_trans Z.out g2.size)
        have Hq := Lib.hid hq
        have Hqs : Hid (q.size ≤ 4) := Lib.hid (by have h3 := Hgl.out; rw [← sizeL, hq]; omega)
        clear g2 Gg Bl Z hq HPp
        go_wp2_with fail
        refine (bld_string q B2.out (by have := Hqs.out; omega) (by have := Z2.out; omega)).mono ?_
        rintro e2 w3 ⟨rfl, hl3, hb3, _⟩
        have G3 := Lib.hid (Gr.below' G2.out hb3)
        have B3 := Lib.hid hl3
        have Z3 : Hid (w.heap.size + 1 ≤ w3.heap.size) := Lib.hid (Nat.le_trans Z2.out hb3.size)
        clear hl3 hb3 G2 B2 Z2
        go_wp2_with fail
        go_roundw
        case rel =>
          have e3 := Hqs.out
          have e4 := Hds.out
          exact ⟨r.extract 2 r.size, acc ++ q.data.toList, f, rfl, by omega, by rw [List.length_append, sizeL]; omega, B3.out, G3.out, Z3.out, Lib.hid (by rw [hR.out, hE.out, Hd.out, Hq.out, List.append_assoc])⟩
        case measure => have e4 := Hds.out; simp only [strLen]; omega
      · have hE := Lib.hid (eachL_one (g := g) (f := f) hL0 h1)
        have hc1 : (1 : Int) ≤ (r.size : Int) := by omega
        have hp := HP.out (r.extract 0 1)
        have hx2 : (r.extract 0 1).data.toList = r.data.toList.take 1 := by rw [extractE]; simp
        rw [hx2] at hp
        have hd2 : (r.extract 1 r.size).data.toList = r.data.toList.drop 1 := dropE r 1
        have hd2s : (r.extract 1 r.size).size = r.size - 1 := by simp [ByteArray.size_extract]
        have hgl := HG.out (r.data.toList.take 1)
        rw [List.length_take, sizeL] at hgl
        have HPp := Lib.hid hp
        have Hd := Lib.hid hd2
        have Hds := Lib.hid hd2s
        have Hgl := Lib.hid hgl
        have hcase : ((r.data.toList[0].toNat : Int) == 92) = false ∨ (((r.data.toList[0].toNat : Int) == 92) = true ∧ decide (1 < r.size) = false ∧ decide ((1 : Int) < (r.size : Int)) = false) := by
          by_cases h5 : r.data.toList[0] = 92
          · refine .inr ⟨by rw [h5]; rfl, ?_, ?_⟩
            · have : ¬ 1 < r.data.toList.length := fun h6 => h1 ⟨h5, h6⟩
              rw [sizeL] at this; simp; omega
            · have : ¬ 1 < r.data.toList.length := fun h6 => h1 ⟨h5, h6⟩
              rw [sizeL] at this; simp; omega
          · exact .inl (u8_lit h5)
        generalize r.data.toList[0] = x at *
        clear h1 hp hx2 hd2 hd2s hgl
        rcases hcase with h92 | ⟨h92, hlt, hlt'⟩
        · go_wp2_with fail
          refine (HPp.out _ (HC.out _ Gg.out)).mono ?_
          rintro e1 w2 ⟨q, hq, rfl, g2⟩
          have G2 := Lib.hid (Gr.trans Gg.out g2)
          have B2 := Lib.hid (Bld.gr' Bl.out g2)
          have Z2 : Hid (w.heap.size + 1 ≤ w2.heap.size) := Lib.hid (Nat.le_trans Z.out g2.size)
          have Hq := Lib.hid hq
          have Hqs : Hid (q.size ≤ 2) := Lib.hid (by have h3 := Hgl.out; rw [← sizeL, hq]; omega)
          clear g2 Gg Bl Z hq HPp
          go_wp2_with fail
          refine (bld_string q B2.out (by have := Hqs.out; omega) (by have := Z2.out; omega)).mono ?_
          rintro e2 w3 ⟨rfl, hl3, hb3, _⟩
          have G3 := Lib.hid (Gr.below' G2.out hb3)
          have B3 := Lib.hid hl3
          have Z3 : Hid (w.heap.size + 1 ≤ w3.heap.size) := Lib.hid (Nat.le_trans Z2.out hb3.size)
          clear hl3 hb3 G2 B2 Z2
          go_wp2_with fail
          go_roundw
          case rel =>
            have e3 := Hqs.out
            have e4 := Hds.out
            exact ⟨r.extract 1 r.size, acc ++ q.data.toList, f, rfl, by omega, by rw [List.length_append, sizeL]; omega, B3.out, G3.out, Z3.out, Lib.hid (by rw [hR.out, hE.out, Hd.out, Hq.out, List.append_assoc])⟩
          case measure => have e4 := Hds.out; simp only [strLen]; omega
        · go_wp2_with fail
          refine (HPp.out _ (HC.out _ Gg.out)).mono ?_
          rintro e1 w2 ⟨q, hq, rfl, g2⟩
          have G2 := Lib.hid (Gr.trans Gg.out g2)
          have B2 := Lib.hid (Bld.gr' Bl.out g2)
          have Z2 : Hid (w.heap.size + 1 ≤ w2.heap.size) := Lib.hid (Nat.le_trans Z.out g2.size)
          have Hq := Lib.hid hq
          have Hqs : Hid (q.size ≤ 2) := Lib.hid (by have h3 := Hgl.out; rw [← sizeL, hq]; omega)
          clear g2 Gg Bl Z hq HPp
          go_wp2_with fail
          refine (bld_string q B2.out (by have := Hqs.out; omega) (by have := Z2.out; omega)).mono ?_
          rintro e2 w3 ⟨rfl, hl3, hb3, _⟩
          have G3 := Lib.hid (Gr.below' G2.out hb3)
          have B3 := Lib.hid hl3
          have Z3 : Hid (w.heap.size + 1 ≤ w3.heap.size) := Lib.hid (Nat.le_trans Z2.out hb3.size)
          clear hl3 hb3 G2 B2 Z2
          go_wp2_with fail
          go_roundw
          case rel =>
            have e3 := Hqs.out
            have e4 := Hds.out
            exact ⟨r.extract 1 r.size, acc ++ q.data.toList, f, rfl, by omega, by rw [List.length_append, sizeL]; omega, B3.out, G3.out, Z3.out, Lib.hid (by rw [hR.out, hE.out, Hd.out, Hq.out, List.append_assoc])⟩
          case measure => have e4 := Hds.out; simp only [strLen]; omega
    · have E : Hid (R = acc) := Lib.hid (by rw [hR.out, show r.data.toList = [] from List.length_eq_zero_iff.1 (by rw [sizeL]; omega), eachL_nil, List.append_nil])
      have hr0 : r.size = 0 := by omega
      have hc0 : decide (0 < r.size) = false := by rw [hr0]; rfl
      clear hR h0 hr0
      go_wp2_with fail
      refine (bld_text Bl.out (by have := Z.out; omega)).mono ?_
      rintro e2 w3 ⟨rfl, hb3⟩
      have G3 := Lib.hid (Gr.below' Gg.out hb3)
      clear hb3
      go_wp2
      go_ret
      exact ⟨_, by rw [E.out], rfl, G3.out⟩
end Go.Proofs.YthmopindibdhnaaDoor.G
namespace Go.Proofs.YthmopindibdhnaaDoor.G
open Go.RowKit Go.Shelf Go.Maps
def secB (p : List UInt8) (f : UInt8 → Bool) : Bool := match p[1]? with | none => false | some c => f c
theorem secB_at {p : List UInt8} {f : UInt8 → Bool} (h : 1 < p.length) : secB p f = f p[1] := by unfold secB; rw [List.getElem?_eq_getElem h]
def plG (o : UInt8) (p : List UInt8) : List UInt8 := if p.length = 2 ∧ secB p (fun c => c == 92 || delsB c o) = true then p.drop 1 else p
def inG (o : UInt8) (p : List UInt8) : List UInt8 := if p = [34] then [92, 34] else if p.length = 2 ∧ secB p (fun c => c != 34 && delsB c o) = true then p.drop 1 else p
theorem plG_le (o : UInt8) (p : List UInt8) : (plG o p).length ≤ 2 * p.length := by
  unfold plG
  split
  · rw [List.length_drop]; omega
  · omega
theorem inG_le (o : UInt8) (p : List UInt8) : (inG o p).length ≤ 2 * p.length := by
  unfold inG
  split
  · rename_i h; rw [h]; decide
  · split
    · rw [List.length_drop]; omega
    · omega
set_option maxRecDepth 100000 in
theorem pl_piece (B : Nat) (o : UInt8) : PieceG 80 B o (plG o) := by
  intro p W hcell
  by_cases h2 : p.size = 2
  · have t0 : ((p.size : Int) == 2) = true := by rw [h2]; rfl
    have hL : 1 < p.data.toList.length := by rw [sizeL]; omega
    have h1 : 1 < p.size := by omega
    have hi1 : (1 : Int) < (p.size : Int) := by omega
    have hi2 : (1 : Int) ≤ (p.size : Int) := by omega
    have ex := byteE p 1 h1 hL
    have hx1 := List.getElem?_eq_getElem hL
    have HX : Hid ((p.extract 1 p.size).data.toList = p.data.toList.drop 1) := Lib.hid (dropE p 1)
    have hD := Lib.hid (fun w => dels_p p.data.toList[1] o w)
    have hG : plG o p.data.toList = if p.data.toList[1] = 92 ∨ delsB p.data.toList[1] o = true then p.data.toList.drop 1 else p.data.toList := by
      unfold plG
      rw [secB_at hL, sizeL]
      simp [h2]
    rw [hG]
    generalize p.data.toList[1] = x at *
    clear hG hx1 h2
    by_cases hx : x = 92
    · have t1 : ((x.toNat : Int) == 92) = true := by rw [hx]; rfl
      rw [if_pos (.inl hx)]
      clear hx
      go_enter Tryd.func80, Tryd.ntmps80
      go_wp2_with fail
      go_quiet (((go_at_call 76; exact quiet_at (hD.out _))))
      go_wp2_with fail
      go_ret
      exact ⟨_, HX.out, rfl, (Gr.refl W).drewN _⟩
    · have t1 : ((x.toNat : Int) == 92) = false := u8_lit hx
      by_cases hy : delsB x o = true
      · rw [if_pos (.inr hy)]
        rw [hy] at hD
        clear hx hy
        go_enter Tryd.func80, Tryd.ntmps80
        go_wp2_with fail
        go_quiet (((go_at_call 76; exact quiet_at (hD.out _))))
        go_wp2_with fail
        go_ret
        exact ⟨_, HX.out, rfl, (Gr.refl W).drewN _⟩
      · rw [if_neg (by rintro (h | h); exact hx h; exact hy h)]
        rw [show delsB x o = false by simpa using hy] at hD
        clear hx hy
        go_enter Tryd.func80, Tryd.ntmps80
        go_wp2_with fail
        go_quiet (((go_at_call 76; exact quiet_at (hD.out _))))
        go_wp2_with fail
        go_ret
        exact ⟨_, rfl, rfl, (Gr.refl W).drewN _⟩
  · have t0 : ((p.size : Int) == 2) = false := by simp; omega
    have hG : plG o p.data.toList = p.data.toList := by unfold plG; rw [if_neg (by rw [sizeL]; exact fun h => h2 h.1)]
    rw [hG]
    clear hG h2
    go_enter Tryd.func80, Tryd.ntmps80
    go_wp2_with fail
    go_quiet (fail)
    go_wp2_with fail
    go_ret
    exact ⟨_, rfl, rfl, (Gr.refl W).drewN _⟩
set_option maxRecDepth 100000 in
theorem in_piece (B : Nat) (o : UInt8) : PieceG 75 B o (inG o) := by
  intro p W hcell
  by_cases h34 : p.data.toList = [34]
  · have t34 : (p.toList == [34]) = true := by rw [ByteArray.toList_eq, h34]; rfl
    have hG : inG o p.data.toList = [92, 34] := by unfold inG; rw [if_pos h34]
    rw [hG]
    clear hG h34
    go_enter Tryd.func75, Tryd.ntmps75
    go_wp2_with fail
    go_ret
    exact ⟨_, rfl, rfl, Gr.refl W⟩
  have t34 : (p.toList == [34]) = false := by rw [ByteArray.toList_eq]; simpa using h34
  by_cases h2 : p.size = 2
  · have t0 : ((p.size : Int) == 2) = true := by rw [h2]; rfl
    have hL : 1 < p.data.toList.length := by rw [sizeL]; omega
    have h1 : 1 < p.size := by omega
    have hi1 : (1 : Int) < (p.size : Int) := by omega
    have hi2 : (1 : Int) ≤ (p.size : Int) := by omega
    have ex := byteE p 1 h1 hL
    have hx1 := List.getElem?_eq_getElem hL
    have HX : Hid ((p.extract 1 p.size).data.toList = p.data.toList.drop 1) := Lib.hid (dropE p 1)
    have hD := Lib.hid (fun w => dels_p p.data.toList[1] o w)
    have hG : inG o p.data.toList = if p.data.toList[1] ≠ 34 ∧ delsB p.data.toList[1] o = true then p.data.toList.drop 1 else p.data.toList := by
      unfold inG
      rw [if_neg h34, secB_at hL, sizeL]
      simp [h2]
    rw [hG]
    generalize p.data.toList[1] = x at *
    clear hG hx1 h2 h34
    by_cases hx : x = 34
    · have t1 : ((x.toNat : Int) != 34) = false := by rw [hx]; rfl
      rw [if_neg (fun h => h.1 hx)]
      clear hx
      go_enter Tryd.func75, Tryd.ntmps75
      go_wp2_with fail
      go_quiet (((go_at_call 76; exact quiet_at (hD.out _))))
      go_wp2_with fail
      go_ret
      exact ⟨_, rfl, rfl, (Gr.refl W).drewN _⟩
    · have t1 : ((x.toNat : Int) != 34) = true := by have := u8_ne (k := 34) hx; simpa using this
      by_cases hy : delsB x o = true
      · rw [if_pos ⟨hx, hy⟩]
        rw [hy] at hD
        clear hx hy
        go_enter Tryd.func75, Tryd.ntmps75
        go_wp2_with fail
        go_quiet (((go_at_call 76; exact quiet_at (hD.out _))))
        go_wp2_with fail
        go_ret
        exact ⟨_, HX.out, rfl, (Gr.refl W).drewN _⟩
      · rw [if_neg (fun h => hy h.2)]
        rw [show delsB x o = false by simpa using hy] at hD
        clear hx hy
        go_enter Tryd.func75, Tryd.ntmps75
        go_wp2_with fail
        go_quiet (((go_at_call 76; exact quiet_at (hD.out _))))
        go_wp2_with fail
        go_ret
        exact ⟨_, rfl, rfl, (Gr.refl W).drewN _⟩
  · have t0 : ((p.size : Int) == 2) = false := by simp; omega
    have hG : inG o p.data.toList = p.data.toList := by unfold inG; rw [if_neg h34, if_neg (by rw [sizeL]; exact fun h => h2 h.1)]
    rw [hG]
    clear hG h2 h34
    go_enter Tryd.func75, Tryd.ntmps75
    go_wp2_with fail
    go_quiet (fail)
    go_wp2_with fail
    go_ret
    exact ⟨_, rfl, rfl, (Gr.refl W).drewN _⟩
def plL (o : UInt8) (l : List UInt8) : List UInt8 := eachL (plG o) l.length l
set_option maxRecDepth 100000 in
theorem plain_g (s : ByteArray) (o : UInt8) (hs : s.size ≤ 1000000) (w : World) : Calls Tryd.prog 66 #[.string s, .int .u8 (o.toNat : Int)] w fun e w' => e = .returned (.string ⟨(plL o s.data.toList).toArray⟩) ∧ Gr w w' := by
  have hR : plL o s.data.toList = eachL (plG o) s.size s.data.toList := by unfold plL; rw [sizeL]
  have hmf : ∀ (fn : Fn) (first cap : Array Value) (w : World), (Instr.makeFunc fn first cap).run Tryd.prog w = .ok (.func fn first cap) w := fun _ _ _ _ => rfl
  have HE := Lib.hid (each_pl (plG o) (plG_le o) (pl_piece w.heap.size o) s hs (w.alloc (.cells #[.int .u8 (o.toNat : Int)] 5)) (by simp) (by rw [(cellsOf (heap_alloc_new w _)).1]; rfl))
  rw [← hR] at HE
  clear hR
  generalize plL o s.data.toList = R at *
  go_enter Tryd.func66, Tryd.ntmps66
  go_wp2_with fail
  refine HE.out.mono ?_
  rintro e w2 ⟨q, hq, rfl, g⟩
  have hq2 : q = ⟨R.toArray⟩ := baE hq
  subst hq2
  go_wp2
  go_ret
  exact ⟨rfl, ((Gr.refl w).alloc _).trans g⟩
def inL (o : UInt8) (l : List UInt8) : List UInt8 := eachL (inG o) l.length l
set_option maxRecDepth 100000 in
theorem inter_g (s : ByteArray) (o : UInt8) (hs : s.size ≤ 1000000) (w : World) : Calls Tryd.prog 56 #[.string s, .int .u8 (o.toNat : Int)] w fun e w' => e = .returned (.string ⟨(inL o s.data.toList).toArray⟩) ∧ Gr w w' := by
  have hR : inL o s.data.toList = eachL (inG o) s.size s.data.toList := by unfold inL; rw [sizeL]
  have hmf : ∀ (fn : Fn) (first cap : Array Value) (w : World), (Instr.makeFunc fn first cap).run Tryd.prog w = .ok (.func fn first cap) w := fun _ _ _ _ => rfl
  have HE := Lib.hid (each_in (inG o) (inG_le o) (in_piece w.heap.size o) s hs (w.alloc (.cells #[.int .u8 (o.toNat : Int)] 5)) (by simp) (by rw [(cellsOf (heap_alloc_new w _)).1]; rfl))
  rw [← hR] at HE
  clear hR
  generalize inL o s.data.toList = R at *
  go_enter Tryd.func56, Tryd.ntmps56
  go_wp2_with fail
  refine HE.out.mono ?_
  rintro e w2 ⟨q, hq, rfl, g⟩
  have hq2 : q = ⟨R.toArray⟩ := baE hq
  subst hq2
  go_wp2
  go_ret
  exact ⟨rfl, ((Gr.refl w).alloc _).trans g⟩
theorem eachL_len {g : List UInt8 → List UInt8} (hg : ∀ p, (g p).length ≤ 2 * p.length) : ∀ f l, (eachL g f l).length ≤ 2 * l.length
  | 0, _ => by simp [eachL]
  | f + 1, [] => by rw [eachL_nil]; simp
  | f + 1, c :: t => by
    rw [eachL]
    split
    · have h1 := hg ((c :: t).take 2)
      have h2 := eachL_len hg f ((c :: t).drop 2)
      rw [List.length_append]
      rename_i h
      have h3 := h.2
      rw [List.length_take] at h1
      rw [List.length_drop] at h2
      omega
    · have h1 := hg ((c :: t).take 1)
      have h2 := eachL_len hg f t
      rw [List.length_append]
      rw [List.length_take] at h1
      simp only [List.length_cons] at *
      omega
theorem plL_len (o : UInt8) (l : List UInt8) : (plL o l).length ≤ 2 * l.length := eachL_len (plG_le o) _ _
theorem inL_len (o : UInt8) (l : List UInt8) : (inL o l).length ≤ 2 * l.length := eachL_len (inG_le o) _ _
theorem wsL_len (l : List UInt8) : (wsL l).length ≤ 2 * l.length := eachL_len (fun p => by have := wsG_le p; omega) _ _
theorem ws_g (s : ByteArray) (hs : s.size ≤ 1000000) (w : World) : Calls Tryd.prog 69 #[.string s] w fun e w' => e = .returned (.string ⟨(wsL s.data.toList).toArray⟩) ∧ Gr w w' :=
  (ws_p s (by omega) w).mono fun e w' ⟨q, hq, he, g⟩ => by
    have : q = ⟨(wsL s.data.toList).toArray⟩ := baE hq
    rw [← this]
    exact ⟨he, g⟩
end Go.Proofs.YthmopindibdhnaaDoor.G
