/- The classes and their spans: the plain functions; the spans that the classes have. Names no function of the program. -/
import Derived.Test.YtiohoiebnpdkbaaDoorCForm
namespace Go.Proofs.YtiohoiebnpdkbaaDoor
def upperB (c : Int) : Bool := upA c || c == 7838 || c == 8490 || c == 8491
def lowerB (c : Int) : Bool := inB c 97 122 || (inB c 223 255 && c != 247) || inB c 945 969 || inB c 1072 1103 || inB c 64256 64262 || c == 181 || c == 329 || c == 383
def letterB (c : Int) : Bool := upperB c || lowerB c || c == 170 || c == 186 || c == 700
def digitB (c : Int) : Bool := inB c 48 57 || inB c 1632 1641
def markB (c : Int) : Bool := inB c 768 879
def blankB (c : Int) : Bool := inB c 9 13 || c == 32 || c == 133 || c == 160 || c == 8232 || c == 8233
def wordB (c : Int) : Bool := letterB c || digitB c || markB c || c == 95
/-- one more character: the last span goes on, or a new one begins -/
def stepS (q : Int → Bool) (out : List (Int × Int)) (c : Int) : List (Int × Int) :=
  if isCh c = true ∧ q c = true then (match out.getLast? with
    | some p => if p.2 = c - 1 then out.dropLast ++ [(p.1, c)] else out ++ [(c, c)]
    | none => out ++ [(c, c)]) else out
/-- n characters from c on -/
def runS (q : Int → Bool) : Nat → Int → List (Int × Int) → List (Int × Int)
  | 0, _, out => out
  | n + 1, c, out => runS q n (c + 1) (stepS q out c)
variable {q : Int → Bool}
theorem stepS_out {out : List (Int × Int)} {c : Int} (h : ¬ (isCh c = true ∧ q c = true)) : stepS q out c = out := if_neg h
theorem stepS_new {out : List (Int × Int)} {c : Int} (h : isCh c = true ∧ q c = true) (hl : ∀ p, out.getLast? = some p → p.2 ≠ c - 1) : stepS q out c = out ++ [(c, c)] := by
  unfold stepS
  rw [if_pos h]
  split
  · rename_i p hp
    rw [if_neg (hl p hp)]
  · rfl
theorem stepS_on {out : List (Int × Int)} {lo c : Int} (h : isCh c = true ∧ q c = true) : stepS q (out ++ [(lo, c - 1)]) c = out ++ [(lo, c)] := by
  unfold stepS
  rw [if_pos h, List.getLast?_concat]
  show (if (c - 1) = c - 1 then _ else _) = _
  rw [if_pos rfl, List.dropLast_concat]
theorem runS_skip (k : Nat) : ∀ (n : Nat) (c : Int) (out : List (Int × Int)), (∀ d, c ≤ d → d < c + k → ¬ (isCh d = true ∧ q d = true)) → runS q (k + n) c out = runS q n (c + k) out := by
  induction k with
  | zero => intro n c out _; rw [Nat.zero_add]; congr 1; omega
  | succ k ih =>
    intro n c out h
    rw [show k + 1 + n = (k + n) + 1 by omega, runS, stepS_out (h c (by omega) (by omega)), ih n (c + 1) out (fun d h1 h2 => h d (by omega) (by omega))]
    congr 1; omega
theorem runS_more (k : Nat) : ∀ (n : Nat) (c lo : Int) (out : List (Int × Int)), (∀ d, c ≤ d → d < c + k → isCh d = true ∧ q d = true) → runS q (k + n) c (out ++ [(lo, c - 1)]) = runS q n (c + k) (out ++ [(lo, c + k - 1)]) := by
  induction k with
  | zero => intro n c lo out _; rw [Nat.zero_add]; congr 1 <;> simp
  | succ k ih =>
    intro n c lo out h
    have := ih n (c + 1) lo out (fun d h1 h2 => h d (by omega) (by omega))
    rw [show c + 1 - 1 = c by omega] at this
    rw [show k + 1 + n = (k + n) + 1 by omega, runS, stepS_on (h c (by omega) (by omega)), this]
    rw [show c + 1 + (k : Int) = c + ((k + 1 : Nat) : Int) by omega]
theorem runS_take (k n : Nat) (c : Int) (out : List (Int × Int)) (hl : ∀ p, out.getLast? = some p → p.2 ≠ c - 1) (h : ∀ d, c ≤ d → d < c + (k + 1 : Nat) → isCh d = true ∧ q d = true) :
    runS q (k + 1 + n) c out = runS q n (c + (k + 1 : Nat)) (out ++ [(c, c + k)]) := by
  have := runS_more (q := q) k n (c + 1) c out (fun d h1 h2 => h d (by omega) (by omega))
  rw [show c + 1 - 1 = c by omega] at this
  rw [show k + 1 + n = (k + n) + 1 by omega, runS, stepS_new (h c (by omega) (by omega)) hl, this]
  rw [show c + 1 + (k : Int) = c + ((k + 1 : Nat) : Int) by omega, show c + ((k + 1 : Nat) : Int) - 1 = c + (k : Int) by omega]
/-- spans in order, none of which touches another one, from cur on -/
def okL : Int → List (Int × Int) → Prop
  | _, [] => True
  | cur, p :: r => cur ≤ p.1 ∧ p.1 ≤ p.2 ∧ p.2 + 2 ≤ 65536 ∧ okL (p.2 + 2) r
def inL (L : List (Int × Int)) (c : Int) : Prop := ∃ p ∈ L, p.1 ≤ c ∧ c ≤ p.2
theorem okL_low : ∀ {L : List (Int × Int)} {cur : Int}, okL cur L → ∀ c, inL L c → cur ≤ c
  | [], _, _, c, h => by obtain ⟨p, hp, _⟩ := h; cases hp
  | p :: r, cur, h, c, hc => by
    obtain ⟨h1, h2, h3, h4⟩ := h
    obtain ⟨s, hs, g1, g2⟩ := hc
    rcases List.mem_cons.1 hs with rfl | hs
    · omega
    · have := okL_low h4 c ⟨s, hs, g1, g2⟩; omega
theorem runS_list (L : List (Int × Int)) : ∀ (cur : Int) (out : List (Int × Int)), 0 ≤ cur → cur ≤ 65536 → okL cur L → (∀ p, out.getLast? = some p → p.2 + 1 < cur) →
    (∀ c, cur ≤ c → c ≤ 65535 → ((isCh c = true ∧ q c = true) ↔ inL L c)) → runS q (65536 - cur).toNat cur out = out ++ L := by
  induction L with
  | nil =>
    intro cur out h0 h1 _ _ hq
    have := runS_skip (q := q) (65536 - cur).toNat 0 cur out (fun d g1 g2 => by
      rw [hq d g1 (by omega)]; rintro ⟨p, hp, _⟩; cases hp)
    rw [Nat.add_zero] at this
    rw [this]; simp [runS]
  | cons p r ih =>
    intro cur out h0 h1 hok hl hq
    obtain ⟨k1, k2, k3, k4⟩ := hok
    have e1 : (65536 - cur).toNat = (p.1 - cur).toNat + (((p.2 - p.1).toNat + 1) + (1 + (65536 - (p.2 + 2)).toNat)) := by omega
    rw [e1, runS_skip _ _ _ _ (fun d g1 g2 => by
      rw [hq d g1 (by omega)]
      rintro ⟨s, hs, f1, f2⟩
      rcases List.mem_cons.1 hs with rfl | hs
      · omega
      · have := okL_low k4 d ⟨s, hs, f1, f2⟩; omega), show cur + ((p.1 - cur).toNat : Int) = p.1 by omega,
      runS_take _ _ _ _ (fun s hs => by have := hl s hs; omega) (fun d g1 g2 => (hq d (by omega) (by omega)).2 ⟨p, List.mem_cons_self, g1, by omega⟩),
      runS_skip 1 _ _ _ (fun d g1 g2 => by
        rw [hq d (by omega) (by omega)]
        rintro ⟨s, hs, f1, f2⟩
        rcases List.mem_cons.1 hs with rfl | hs
        · omega
        · have := okL_low k4 d ⟨s, hs, f1, f2⟩; omega)]
    have e2 : p.1 + (((p.2 - p.1).toNat + 1 : Nat) : Int) + ((1 : Nat) : Int) = p.2 + 2 := by omega
    have e3 : (p.1, p.1 + ((p.2 - p.1).toNat : Int)) = p := by
      rw [show p.1 + ((p.2 - p.1).toNat : Int) = p.2 by omega]
    rw [e2, e3, ih (p.2 + 2) (out ++ [p]) (by omega) (by omega) k4 (fun s hs => by
      rw [List.getLast?_concat] at hs; cases hs; omega) (fun c g1 g2 => by
      rw [hq c (by omega) g2]
      constructor
      · rintro ⟨s, hs, f1, f2⟩
        rcases List.mem_cons.1 hs with rfl | hs
        · omega
        · exact ⟨s, hs, f1, f2⟩
      · rintro ⟨s, hs, f1, f2⟩
        exact ⟨s, List.mem_cons_of_mem _ hs, f1, f2⟩)]
    simp
/-- the spans of a class, character by character -/
def spansL (q : Int → Bool) : List (Int × Int) := runS q 65536 0 []
theorem spansL_of (L : List (Int × Int)) (hok : okL 0 L) (hq : ∀ c, 0 ≤ c → c ≤ 65535 → ((isCh c = true ∧ q c = true) ↔ inL L c)) : spansL q = L := by
  have := runS_list (q := q) L 0 [] (by decide) (by decide) hok (fun p h => by cases h) hq
  exact this
theorem inL_nil {c : Int} : inL [] c ↔ False := ⟨fun ⟨_, h, _⟩ => (by cases h), False.elim⟩
theorem inL_cons {p : Int × Int} {r : List (Int × Int)} {c : Int} : inL (p :: r) c ↔ (p.1 ≤ c ∧ c ≤ p.2) ∨ inL r c := by
  constructor
  · rintro ⟨s, hs, f1, f2⟩
    rcases List.mem_cons.1 hs with rfl | hs
    · exact .inl ⟨f1, f2⟩
    · exact .inr ⟨s, hs, f1, f2⟩
  · rintro (⟨f1, f2⟩ | ⟨s, hs, f1, f2⟩)
    · exact ⟨p, List.mem_cons_self, f1, f2⟩
    · exact ⟨s, List.mem_cons_of_mem _ hs, f1, f2⟩
def upperL : List (Int × Int) := [(65, 90), (192, 214), (216, 222), (913, 929), (931, 937), (1040, 1071), (7838, 7838), (8490, 8491)]
def lowerL : List (Int × Int) := [(97, 122), (181, 181), (223, 246), (248, 255), (329, 329), (383, 383), (945, 969), (1072, 1103), (64256, 64262)]
def letterL : List (Int × Int) := [(65, 90), (97, 122), (170, 170), (181, 181), (186, 186), (192, 214), (216, 246), (248, 255), (329, 329), (383, 383), (700, 700), (913, 929), (931, 937), (945, 969), (1040, 1103), (7838, 7838), (8490, 8491), (64256, 64262)]
def digitL : List (Int × Int) := [(48, 57), (1632, 1641)]
def markL : List (Int × Int) := [(768, 879)]
def blankL : List (Int × Int) := [(9, 13), (32, 32), (133, 133), (160, 160), (8232, 8233)]
def wordL : List (Int × Int) := [(48, 57), (65, 90), (95, 95), (97, 122), (170, 170), (181, 181), (186, 186), (192, 214), (216, 246), (248, 255), (329, 329), (383, 383), (700, 700), (768, 879), (913, 929), (931, 937), (945, 969), (1040, 1103), (1632, 1641), (7838, 7838), (8490, 8491), (64256, 64262)]
theorem spans_upper : spansL upperB = upperL := spansL_of _ (by simp [upperL, okL]) fun c h0 h1 => by simp [upperL, inL_cons, inL_nil, isCh, upperB, upA, inB]; omega
theorem spans_lower : spansL lowerB = lowerL := spansL_of _ (by simp [lowerL, okL]) fun c h0 h1 => by simp [lowerL, inL_cons, inL_nil, isCh, lowerB, inB]; omega
theorem spans_digit : spansL digitB = digitL := spansL_of _ (by simp [digitL, okL]) fun c h0 h1 => by simp [digitL, inL_cons, inL_nil, isCh, digitB, inB]; omega
theorem spans_mark : spansL markB = markL := spansL_of _ (by simp [markL, okL]) fun c h0 h1 => by simp [markL, inL_cons, inL_nil, isCh, markB, inB]; omega
theorem spans_blank : spansL blankB = blankL := spansL_of _ (by simp [blankL, okL]) fun c h0 h1 => by simp [blankL, inL_cons, inL_nil, isCh, blankB, inB]; omega
set_option maxHeartbeats 4000000 in
theorem spans_letter : spansL letterB = letterL := spansL_of _ (by simp [letterL, okL]) fun c h0 h1 => by simp [letterL, inL_cons, inL_nil, isCh, letterB, upperB, lowerB, upA, inB]; omega
set_option maxHeartbeats 4000000 in
theorem spans_word : spansL wordB = wordL := spansL_of _ (by simp [wordL, okL]) fun c h0 h1 => by simp [wordL, inL_cons, inL_nil, isCh, wordB, letterB, upperB, lowerB, digitB, markB, upA, inB]; omega
end Go.Proofs.YtiohoiebnpdkbaaDoor
