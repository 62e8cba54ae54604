/- Classes and forms of characters: the plain functions, and that folded and small ones stay so. Names no function of the program. -/
import Derived.Test.YtcaoknlgbocgpaaGreatDoorCUtf2
namespace Go.Proofs.YtcaoknlgbocgpaaGreatDoor
def inB (c lo hi : Int) : Bool := decide (lo ≤ c) && decide (c ≤ hi)
theorem inB_true {c lo hi : Int} : inB c lo hi = true ↔ lo ≤ c ∧ c ≤ hi := by simp [inB]
/-- the capitals that have a small form 32 further -/
def upA (c : Int) : Bool := inB c 65 90 || (inB c 192 222 && c != 215) || (inB c 913 937 && c != 930) || inB c 1040 1071
theorem upA_true {c : Int} : upA c = true ↔ (65 ≤ c ∧ c ≤ 90) ∨ (192 ≤ c ∧ c ≤ 222 ∧ c ≠ 215) ∨ (913 ≤ c ∧ c ≤ 937 ∧ c ≠ 930) ∨ (1040 ≤ c ∧ c ≤ 1071) := by
  simp [upA, inB]; omega
theorem upA_false {c : Int} : upA c = false ↔ ¬ ((65 ≤ c ∧ c ≤ 90) ∨ (192 ≤ c ∧ c ≤ 222 ∧ c ≠ 215) ∨ (913 ≤ c ∧ c ≤ 937 ∧ c ≠ 930) ∨ (1040 ≤ c ∧ c ≤ 1071)) := by
  rw [← Bool.not_eq_true, upA_true]
def smallC (c : Int) : Int := if upA c = true then c + 32 else if c = 7838 then 223 else if c = 8490 then 107 else if c = 8491 then 229 else c
theorem smallC_cases (c : Int) : (upA c = true ∧ smallC c = c + 32) ∨ (c = 7838 ∧ smallC c = 223) ∨ (c = 8490 ∧ smallC c = 107) ∨ (c = 8491 ∧ smallC c = 229) ∨
    (upA c = false ∧ c ≠ 7838 ∧ c ≠ 8490 ∧ c ≠ 8491 ∧ smallC c = c) := by
  by_cases h : upA c = true
  · exact .inl ⟨h, if_pos h⟩
  by_cases h1 : c = 7838
  · subst h1; exact .inr (.inl ⟨rfl, rfl⟩)
  by_cases h2 : c = 8490
  · subst h2; exact .inr (.inr (.inl ⟨rfl, rfl⟩))
  by_cases h3 : c = 8491
  · subst h3; exact .inr (.inr (.inr (.inl ⟨rfl, rfl⟩)))
  · exact .inr (.inr (.inr (.inr ⟨by simpa using h, h1, h2, h3, by unfold smallC; rw [if_neg h, if_neg h1, if_neg h2, if_neg h3]⟩)))
theorem small_same {c : Int} (h : upA c = false) (h1 : c ≠ 7838) (h2 : c ≠ 8490) (h3 : c ≠ 8491) : smallC c = c := by
  unfold smallC; rw [if_neg (by rw [h]; decide), if_neg h1, if_neg h2, if_neg h3]
theorem small_small (c : Int) : smallC (smallC c) = smallC c := by
  rcases smallC_cases c with ⟨h, e⟩ | ⟨h, e⟩ | ⟨h, e⟩ | ⟨h, e⟩ | ⟨_, _, _, _, e⟩
  · have hu := upA_true.1 h
    rw [e]
    exact small_same (upA_false.2 (by omega)) (by omega) (by omega) (by omega)
  · rw [e]; decide
  · rw [e]; decide
  · rw [e]; decide
  · rw [e, e]
theorem small_ch {c : Int} (h : isCh c = true) : isCh (smallC c) = true := by
  have hb := isCh_true.1 h
  rcases smallC_cases c with ⟨h, e⟩ | ⟨h, e⟩ | ⟨h, e⟩ | ⟨h, e⟩ | ⟨_, _, _, _, e⟩
  · have hu := upA_true.1 h
    rw [e]; exact isCh_true.2 (by omega)
  · rw [e]; decide
  · rw [e]; decide
  · rw [e]; decide
  · rw [e]; exact h
/-- the fold -/
def foldC (c : Int) : List Int := if c = 181 then [956] else if c = 223 ∨ c = 7838 then [115, 115] else if c = 329 then [700, 110] else if c = 383 then [115] else if c = 962 then [963]
  else if c = 64256 then [102, 102] else if c = 64257 then [102, 105] else if c = 64258 then [102, 108] else if c = 64259 then [102, 102, 105] else if c = 64260 then [102, 102, 108]
  else if c = 64261 ∨ c = 64262 then [115, 116] else [smallC c]
def foldS (c : Int) : Prop := c = 181 ∨ c = 223 ∨ c = 7838 ∨ c = 329 ∨ c = 383 ∨ c = 962 ∨ c = 64256 ∨ c = 64257 ∨ c = 64258 ∨ c = 64259 ∨ c = 64260 ∨ c = 64261 ∨ c = 64262
theorem foldC_else {c : Int} (h : ¬ foldS c) : foldC c = [smallC c] := by
  unfold foldS at h
  unfold foldC
  rw [if_neg (by omega), if_neg (by omega), if_neg (by omega), if_neg (by omega), if_neg (by omega), if_neg (by omega), if_neg (by omega), if_neg (by omega), if_neg (by omega), if_neg (by omega), if_neg (by omega)]
theorem fold_fold (c : Int) : (foldC c).flatMap foldC = foldC c := by
  by_cases h : foldS c
  · rcases h with rfl | rfl | rfl | rfl | rfl | rfl | rfl | rfl | rfl | rfl | rfl | rfl | rfl <;> decide
  · rw [foldC_else h]
    have hd : foldC (smallC c) = [smallC c] := by
      rw [foldC_else, small_small]
      unfold foldS at h ⊢
      rcases smallC_cases c with ⟨hu, e⟩ | ⟨hu, e⟩ | ⟨hu, e⟩ | ⟨hu, e⟩ | ⟨_, _, _, _, e⟩
      · have hu := upA_true.1 hu
        rw [e]; omega
      · omega
      · rw [e]; omega
      · rw [e]; omega
      · rw [e]; exact h
    rw [List.flatMap_cons, List.flatMap_nil, hd]; rfl
theorem fold_ch {c : Int} (h : isCh c = true) : (foldC c).all isCh = true := by
  by_cases hs : foldS c
  · rcases hs with rfl | rfl | rfl | rfl | rfl | rfl | rfl | rfl | rfl | rfl | rfl | rfl | rfl <;> decide
  · rw [foldC_else hs, List.all_cons, small_ch h]; rfl
/-- the capital form -/
def capR (c : Int) : Bool := inB c 97 122 || (inB c 224 254 && c != 247) || inB c 945 969 || inB c 1072 1103
theorem capR_true {c : Int} : capR c = true ↔ (97 ≤ c ∧ c ≤ 122) ∨ (224 ≤ c ∧ c ≤ 254 ∧ c ≠ 247) ∨ (945 ≤ c ∧ c ≤ 969) ∨ (1072 ≤ c ∧ c ≤ 1103) := by
  simp [capR, inB]; omega
def capC (c : Int) : List Int := if c = 962 then [931] else if capR c = true then [c - 32] else if c = 383 then [83] else if c = 223 then [83, 83] else if c = 329 then [700, 78]
  else if c = 64256 then [70, 70] else if c = 64257 then [70, 73] else if c = 64258 then [70, 76] else if c = 64259 then [70, 70, 73] else if c = 64260 then [70, 70, 76]
  else if c = 64261 ∨ c = 64262 then [83, 84] else [c]
def capS (c : Int) : Prop := c = 962 ∨ c = 383 ∨ c = 223 ∨ c = 329 ∨ c = 64256 ∨ c = 64257 ∨ c = 64258 ∨ c = 64259 ∨ c = 64260 ∨ c = 64261 ∨ c = 64262
theorem capC_else {c : Int} (h : ¬ capS c) : capC c = if capR c = true then [c - 32] else [c] := by
  unfold capS at h
  unfold capC
  rw [if_neg (by omega)]
  congr 1
  rw [if_neg (by omega), if_neg (by omega), if_neg (by omega), if_neg (by omega), if_neg (by omega), if_neg (by omega), if_neg (by omega), if_neg (by omega), if_neg (by omega)]
theorem cap_ch {c : Int} (h : isCh c = true) : (capC c).all isCh = true := by
  by_cases hs : capS c
  · rcases hs with rfl | rfl | rfl | rfl | rfl | rfl | rfl | rfl | rfl | rfl | rfl <;> decide
  · rw [capC_else hs]
    have hb := isCh_true.1 h
    by_cases hr : capR c = true
    · have := capR_true.1 hr
      rw [if_pos hr, List.all_cons, isCh_true.2 (by omega)]; rfl
    · rw [if_neg hr, List.all_cons, h]; rfl
theorem cap_ne (c : Int) : capC c ≠ [] := by
  by_cases hs : capS c
  · rcases hs with rfl | rfl | rfl | rfl | rfl | rfl | rfl | rfl | rfl | rfl | rfl <;> decide
  · rw [capC_else hs]
    by_cases hr : capR c = true
    · rw [if_pos hr]; simp
    · rw [if_neg hr]; simp
/-- the title of characters -/
def titleL : List Int → List Int
  | [] => []
  | c :: r => match capC c with
    | [] => r.map smallC
    | d :: t => d :: (t.map smallC ++ r.map smallC)
theorem all_map {f : Int → Int} (hf : ∀ c, isCh c = true → isCh (f c) = true) {l : List Int} (h : l.all isCh = true) : (l.map f).all isCh = true := by
  rw [List.all_eq_true] at h ⊢
  intro x hx
  obtain ⟨y, hy, rfl⟩ := List.mem_map.1 hx
  exact hf y (h y hy)
theorem all_flat {f : Int → List Int} (hf : ∀ c, isCh c = true → (f c).all isCh = true) {l : List Int} (h : l.all isCh = true) : (l.flatMap f).all isCh = true := by
  rw [List.all_eq_true] at h ⊢
  intro x hx
  obtain ⟨y, hy, hx⟩ := List.mem_flatMap.1 hx
  exact List.all_eq_true.1 (hf y (h y hy)) x hx
theorem smalls_smalls (l : List Int) : (l.map smallC).map smallC = l.map smallC := by
  rw [List.map_map]; exact List.map_congr_left fun c _ => small_small c
theorem folds_folds (l : List Int) : (l.flatMap foldC).flatMap foldC = l.flatMap foldC := by
  induction l with
  | nil => rfl
  | cons c l ih => rw [List.flatMap_cons, List.flatMap_append, fold_fold, ih]
end Go.Proofs.YtcaoknlgbocgpaaGreatDoor
