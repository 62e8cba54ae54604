/- Core CUtf CUtf2 CDec CAt CShelf CLib -/
import Derived.Test.YthmopindibdhnaaDoorProg
import Derived.WalkKit
import Derived.WalkLawsBesides
import Derived.WalkSpells
import Derived.Lib.Hide
import Derived.Handy
import Derived.OwnWalk
import Derived.Deep.QuietTactic
import Derived.BigQuiet
import Derived.Outline
import Derived.Deep.DeepFit
import Derived.Laws.IdiomStrings
import Derived.Laws.Runes
import Derived.Laws.RangeAny
import Derived.Lib.RuneCount
import Derived.Shelf.Small.Utf8
import Derived.Shelf.Strings.BuilderK
import Derived.Shelf.Strings.BuilderRune
import Derived.Shelf.Utf8.RuneCount
import Derived.Shelf.Strings.Prefix
import Derived.Shelf.Unicode.DecodeAny
import Derived.Lib.OthersKept
import Derived.Lib.RuneBytes
import Derived.Lib.LaidU8
namespace Go.Proofs.YthmopindibdhnaaDoor
open Go.RowKit

/-- the world has grown by new blocks alone -/
def Gr (w w' : World) : Prop := Below w.heap.size w w'
theorem Gr.refl (w : World) : Gr w w := Below.refl _ _
theorem Gr.trans {a b c : World} (h : Gr a b) (k : Gr b c) : Gr a c := Below.trans h (Below.mono k h.size)
theorem Gr.alloc {a b : World} (h : Gr a b) (o : Obj) : Gr a (b.alloc o) := Below.alloc h h.size o
theorem Gr.drew {a b : World} (h : Gr a b) : Gr a b.drew := Below.drew h
theorem Gr.drewN {a b : World} (h : Gr a b) (n : Nat) : Gr a (b.drewN n) := by
  have h' : Below a.heap.size a b := h
  exact ⟨h'.os, h'.tape, h'.output, h'.size, h'.block⟩
theorem Gr.setCell {a b : World} (h : Gr a b) {p : Addr} (hp : a.heap.size ≤ p.block) (u : Value) : Gr a (b.setCell p u) := Below.setCell h hp u
theorem Gr.size {a b : World} (h : Gr a b) : a.heap.size ≤ b.heap.size := Below.size h
theorem Gr.cell {a b : World} (h : Gr a b) {p : Addr} (hp : p.block < a.heap.size) : b.cell? p = a.cell? p := Below.cell h hp
theorem Gr.frozen {a b : World} (h : Gr a b) {p : Addr} (hp : p.block < a.heap.size) : b.frozen? p = a.frozen? p := Below.frozen h hp
theorem Gr.same {a b : World} (h : a = b) : Gr a b := h ▸ Gr.refl a
theorem sizeL (s : ByteArray) : s.data.toList.length = s.size := by simp
theorem getL (r : ByteArray) (k : Nat) (h : k < r.size) : r.data.toList[k]? = some r[k] := by
  rw [List.getElem?_eq_getElem (by simpa using h)]; rfl
theorem drop_at (s : ByteArray) (k : Nat) (h : k < s.size) : s.data.toList.drop k = s[k] :: s.data.toList.drop (k + 1) := by
  rw [List.drop_eq_getElem_cons (by simpa using h)]; rfl
theorem nil_at (s : ByteArray) (k : Nat) (h : s.size ≤ k) : s.data.toList.drop k = [] :=
  List.drop_eq_nil_of_le (by rw [show s.data.toList.length = s.size from by simp]; exact h)
theorem nil_of_zero (r : ByteArray) (h : ¬ 0 < r.size) : r.data.toList = [] :=
  List.eq_nil_of_length_eq_zero (Nat.eq_zero_of_le_zero (Nat.not_lt.1 h))
theorem cons_of_pos (r : ByteArray) (h : 0 < r.size) : ∃ l, r.data.toList = r[0] :: l := ⟨_, drop_at r 0 h⟩
theorem ne_of_pos (r : ByteArray) (h : 0 < r.size) : (!r.toList.isEmpty) = true := by
  obtain ⟨l, hl⟩ := cons_of_pos r h
  rw [ByteArray.toList_eq, hl]; rfl
theorem dropE (s : ByteArray) (k : Nat) : (s.extract k s.size).data.toList = s.data.toList.drop k := by simp [List.take_of_length_le]
theorem app_data (a b : ByteArray) : (a ++ b).data.toList = a.data.toList ++ b.data.toList := by simp
theorem barr_of {b : ByteArray} {l : List UInt8} (h : b.data.toList = l) : b = ⟨l.toArray⟩ := by
  subst h; congr 1
theorem quiet_add {P : Program} {f : FuncId} {args : Array Value} {w : World} {a n : Nat} {v : Value}
    (h : Calls P f args (w.drewN (a + n)) fun e w' => e = .returned v ∧ w.drewN (a + n) = w') :
    Calls P f args (w.drewN (a + n)) fun e w'' => e = .returned v ∧ ∃ m, w'' = w.drewN (a + m) :=
  h.mono fun _ _ ⟨he, hm⟩ => ⟨he, n, hm.symm⟩
theorem quiet_at {P : Program} {f : FuncId} {args : Array Value} {w : World} {n : Nat} {v : Value}
    (h : Calls P f args (w.drewN n) fun e w' => e = .returned v ∧ w.drewN n = w') : Calls P f args (w.drewN n) fun e w'' => e = .returned v ∧ ∃ m, w'' = w.drewN m :=
  h.mono fun _ _ ⟨he, hm⟩ => ⟨he, n, hm.symm⟩
theorem ownsRow_shape {w : World} {base e size n : Nat} {v : Value} {xs : List Value} (h : w.ownsRow base e size v n xs) : ∃ ao cap, v = .slice ao n cap := by
  rcases h.2 with ⟨rfl, rfl⟩ | ⟨g, cap, cur, rfl, _⟩
  · exact ⟨_, _, rfl⟩
  · exact ⟨_, _, rfl⟩
theorem ownsRow_gr {w w' : World} {base e size n : Nat} {v : Value} {xs : List Value} (h : w.ownsRow base e size v n xs) (hg : Gr w w') : w'.ownsRow base e size v n xs := by
  refine ⟨h.1, ?_⟩
  rcases h.2 with ⟨rfl, rfl⟩ | ⟨g, cap, cur, rfl, h1, h2, h3⟩
  · exact .inl ⟨rfl, rfl⟩
  · refine .inr ⟨g, cap, cur, rfl, h1, ?_, h3⟩
    have hlt : g < w.heap.size := by
      rw [Array.getElem?_eq_some_iff] at h2; exact h2.1
    have hb : Below w.heap.size w w' := hg
    rw [hb.block g hlt]; exact h2
def slLen : Value → Nat
  | .slice _ n _ => n
  | _ => 0
end Go.Proofs.YthmopindibdhnaaDoor
namespace Go.Proofs.YthmopindibdhnaaDoor
/-- characters -/
def isCh (c : Int) : Bool := decide (0 ≤ c) && decide (c ≤ 1114111) && !(decide (55296 ≤ c) && decide (c ≤ 57343))
/-- how many bytes, what the first one says, and the least character -/
def leadN (b : Int) : Nat := if 192 ≤ b ∧ b < 224 then 2 else if 224 ≤ b ∧ b < 240 then 3 else if 240 ≤ b ∧ b < 248 then 4 else 0
def leadC (b : Int) : Int := if 192 ≤ b ∧ b < 224 then b - 192 else if 224 ≤ b ∧ b < 240 then b - 224 else if 240 ≤ b ∧ b < 248 then b - 240 else 0
def leadM (b : Int) : Int := if 192 ≤ b ∧ b < 224 then 128 else if 224 ≤ b ∧ b < 240 then 2048 else if 240 ≤ b ∧ b < 248 then 65536 else 0
theorem lead_cases (b : Int) : (192 ≤ b ∧ b < 224 ∧ leadN b = 2 ∧ leadC b = b - 192 ∧ leadM b = 128) ∨ (224 ≤ b ∧ b < 240 ∧ leadN b = 3 ∧ leadC b = b - 224 ∧ leadM b = 2048) ∨
    (240 ≤ b ∧ b < 248 ∧ leadN b = 4 ∧ leadC b = b - 240 ∧ leadM b = 65536) ∨ (b < 192 ∧ leadN b = 0) ∨ (248 ≤ b ∧ leadN b = 0) := by
  unfold leadN leadC leadM
  by_cases h1 : 192 ≤ b ∧ b < 224
  · exact .inl ⟨h1.1, h1.2, if_pos h1, if_pos h1, if_pos h1⟩
  simp only [if_neg h1]
  by_cases h2 : 224 ≤ b ∧ b < 240
  · exact .inr (.inl ⟨h2.1, h2.2, if_pos h2, if_pos h2, if_pos h2⟩)
  simp only [if_neg h2]
  by_cases h3 : 240 ≤ b ∧ b < 248
  · exact .inr (.inr (.inl ⟨h3.1, h3.2, if_pos h3, if_pos h3, if_pos h3⟩))
  simp only [if_neg h3]
  by_cases h4 : b < 192
  · exact .inr (.inr (.inr (.inl ⟨h4, trivial⟩)))
  · exact .inr (.inr (.inr (.inr ⟨by omega, trivial⟩)))
/-- a byte that goes on -/
def goesB (x : Int) : Bool := decide (128 ≤ x) && decide (x < 192)
def cont : List UInt8 → Int → Option Int
  | [], c => some c
  | x :: r, c => if goesB (x.toNat : Int) = true then cont r (c * 64 + (x.toNat : Int) - 128) else none
theorem cont_on {x : UInt8} {r : List UInt8} {c : Int} (h : goesB (x.toNat : Int) = true) : cont (x :: r) c = cont r (c * 64 + (x.toNat : Int) - 128) := by rw [cont, if_pos h]
theorem cont_no {x : UInt8} {r : List UInt8} {c : Int} (h : goesB (x.toNat : Int) = false) : cont (x :: r) c = none := by rw [cont, if_neg (by rw [h]; decide)]
/-- the character that bytes make, if they are enough and right -/
def made (n : Nat) (least : Int) : Option Int → Int × Nat
  | none => (0, 0)
  | some c => if c < least ∨ isCh c = false then (0, 0) else (c, n)
/-- the first character of a text that is not empty, and how many bytes it has; (0, 0): none -/
def firstC (b : Int) (r : List UInt8) : Int × Nat := if b < 128 then (b, 1) else if leadN b = 0 ∨ r.length + 1 < leadN b then (0, 0) else made (leadN b) (leadM b) (cont (r.take (leadN b - 1)) (leadC b))
def firstL (l : List UInt8) : Int × Nat := match l with
  | [] => (0, 0)
  | b :: r => firstC b.toNat r
theorem firstL_cons (b : UInt8) (r : List UInt8) : firstL (b :: r) = firstC b.toNat r := rfl
theorem made_le (n : Nat) (m : Int) (o : Option Int) : (made n m o).2 = 0 ∨ (made n m o).2 = n := by
  unfold made
  split
  · exact .inl rfl
  · split
    · exact .inl rfl
    · exact .inr rfl
theorem firstC_one {b : Int} {r : List UInt8} (h : b < 128) : firstC b r = (b, 1) := by unfold firstC; rw [if_pos h]
theorem firstC_no {b : Int} {r : List UInt8} (h : ¬ b < 128) (hn : leadN b = 0 ∨ r.length + 1 < leadN b) : firstC b r = (0, 0) := by unfold firstC; rw [if_neg h, if_pos hn]
theorem firstC_made {b : Int} {r : List UInt8} (h : ¬ b < 128) (hn : ¬ (leadN b = 0 ∨ r.length + 1 < leadN b)) : firstC b r = made (leadN b) (leadM b) (cont (r.take (leadN b - 1)) (leadC b)) := by
  unfold firstC; rw [if_neg h, if_neg hn]
theorem firstC_len (b : Int) (r : List UInt8) : (firstC b r).2 ≤ r.length + 1 := by
  by_cases h : b < 128
  · rw [firstC_one h]; simp
  · by_cases hn : leadN b = 0 ∨ r.length + 1 < leadN b
    · rw [firstC_no h hn]; simp
    · rw [firstC_made h hn]
      rcases made_le (leadN b) (leadM b) (cont (r.take (leadN b - 1)) (leadC b)) with e | e
      · rw [e]; omega
      · rw [e]; omega
theorem firstL_len (l : List UInt8) : (firstL l).2 ≤ l.length := by
  cases l with
  | nil => exact Nat.le_refl _
  | cons b r => rw [firstL_cons]; exact firstC_len _ _
/-- how many bytes are valid, and whether all are -/
def validL (l : List UInt8) : Nat × Bool :=
  if _h : l = [] then (0, true) else if _hn : (firstL l).2 = 0 then (0, false) else ((firstL l).2 + (validL (l.drop (firstL l).2)).1, (validL (l.drop (firstL l).2)).2)
termination_by l.length
decreasing_by all_goals (rw [List.length_drop]; have := List.length_pos_iff.2 _h; omega)
/-- the characters -/
def runesL (l : List UInt8) : List Int :=
  if _h : l = [] then [] else if _hn : (firstL l).2 = 0 then [] else (firstL l).1 :: runesL (l.drop (firstL l).2)
termination_by l.length
decreasing_by rw [List.length_drop]; have := List.length_pos_iff.2 _h; omega
theorem validL_nil : validL [] = (0, true) := by rw [validL, dif_pos rfl]
theorem validL_no {l : List UInt8} (h : l ≠ []) (hn : (firstL l).2 = 0) : validL l = (0, false) := by rw [validL, dif_neg h, dif_pos hn]
theorem validL_on {l : List UInt8} (h : l ≠ []) (hn : (firstL l).2 ≠ 0) : validL l = ((firstL l).2 + (validL (l.drop (firstL l).2)).1, (validL (l.drop (firstL l).2)).2) := by
  rw [validL, dif_neg h, dif_neg hn]
theorem runesL_nil : runesL [] = [] := by rw [runesL, dif_pos rfl]
theorem runesL_no {l : List UInt8} (h : l ≠ []) (hn : (firstL l).2 = 0) : runesL l = [] := by rw [runesL, dif_neg h, dif_pos hn]
theorem runesL_on {l : List UInt8} (h : l ≠ []) (hn : (firstL l).2 ≠ 0) : runesL l = (firstL l).1 :: runesL (l.drop (firstL l).2) := by rw [runesL, dif_neg h, dif_neg hn]
theorem runesL_len (l : List UInt8) : (runesL l).length ≤ l.length := by
  induction hk : l.length using Nat.strongRecOn generalizing l with
  | ind k ih =>
    by_cases h : l = []
    · rw [h, runesL_nil]; simp
    · by_cases hn : (firstL l).2 = 0
      · rw [runesL_no h hn]; simp
      · have hp := List.length_pos_iff.2 h
        have hle := firstL_len l
        have := ih (l.drop (firstL l).2).length (by rw [List.length_drop]; omega) _ rfl
        rw [runesL_on h hn, List.length_cons, ← hk]
        rw [List.length_drop] at this
        omega
end Go.Proofs.YthmopindibdhnaaDoor
namespace Go.Proofs.YthmopindibdhnaaDoor
def by8 (n : Int) : UInt8 := UInt8.ofNat n.toNat
/-- the bytes of a character -/
def oneL (c : Int) : List UInt8 := if c < 128 then [by8 c] else if c < 2048 then [by8 (192 + c / 64), by8 (128 + c % 64)]
  else if c < 65536 then [by8 (224 + c / 4096), by8 (128 + c / 64 % 64), by8 (128 + c % 64)]
  else [by8 (240 + c / 262144), by8 (128 + c / 4096 % 64), by8 (128 + c / 64 % 64), by8 (128 + c % 64)]
theorem one1 {c : Int} (h : c < 128) : oneL c = [by8 c] := if_pos h
theorem one2 {c : Int} (h : ¬ c < 128) (h2 : c < 2048) : oneL c = [by8 (192 + c / 64), by8 (128 + c % 64)] := (if_neg h).trans (if_pos h2)
theorem one3 {c : Int} (h : ¬ c < 128) (h2 : ¬ c < 2048) (h3 : c < 65536) : oneL c = [by8 (224 + c / 4096), by8 (128 + c / 64 % 64), by8 (128 + c % 64)] := (if_neg h).trans ((if_neg h2).trans (if_pos h3))
theorem one4 {c : Int} (h : ¬ c < 128) (h2 : ¬ c < 2048) (h3 : ¬ c < 65536) : oneL c = [by8 (240 + c / 262144), by8 (128 + c / 4096 % 64), by8 (128 + c / 64 % 64), by8 (128 + c % 64)] :=
  (if_neg h).trans ((if_neg h2).trans (if_neg h3))
theorem by8_to {n : Int} (h0 : 0 ≤ n) (h1 : n < 256) : ((by8 n).toNat : Int) = n := by
  unfold by8
  rw [UInt8.toNat_ofNat']
  have : n.toNat % 2 ^ 8 = n.toNat := Nat.mod_eq_of_lt (by show n.toNat < 256; omega)
  rw [this]; omega
theorem by8_of (b : UInt8) {n : Int} (h : n = (b.toNat : Int)) : by8 n = b := by
  subst h
  unfold by8
  rw [Int.toNat_natCast, UInt8.ofNat_toNat]
theorem isCh_true {c : Int} : isCh c = true ↔ 0 ≤ c ∧ c ≤ 1114111 ∧ ¬ (55296 ≤ c ∧ c ≤ 57343) := by
  unfold isCh; simp [and_assoc]; omega
theorem goes_true {x : Int} : goesB x = true ↔ 128 ≤ x ∧ x < 192 := by simp [goesB]
theorem made_some {n : Nat} {m c : Int} (h1 : ¬ c < m) (h2 : isCh c = true) : made n m (some c) = (c, n) := by
  show (if c < m ∨ isCh c = false then ((0, 0) : Int × Nat) else (c, n)) = _
  exact if_neg (by rw [h2]; rintro (h | h); exact h1 h; cases h)
theorem made_out {n : Nat} {m : Int} {o : Option Int} (h : (made n m o).2 ≠ 0) : ∃ c, o = some c ∧ ¬ c < m ∧ isCh c = true ∧ made n m o = (c, n) := by
  cases o with
  | none => exact absurd rfl h
  | some c =>
    by_cases h1 : c < m ∨ isCh c = false
    · have : made n m (some c) = (0, 0) := if_pos h1
      rw [this] at h; exact absurd rfl h
    · have h2 : isCh c = true := by
        cases hc : isCh c
        · exact absurd (.inr hc) h1
        · rfl
      exact ⟨c, rfl, fun h => h1 (.inl h), h2, made_some (fun h => h1 (.inl h)) h2⟩
/-- reading undoes writing, a character -/
theorem first_one {c : Int} (hc : isCh c = true) (r : List UInt8) : firstL (oneL c ++ r) = (c, (oneL c).length) ∧ (oneL c).length ≠ 0 := by
  have hb := isCh_true.1 hc
  by_cases h1 : c < 128
  · rw [one1 h1]
    refine ⟨?_, by simp⟩
    rw [List.cons_append, firstL_cons, by8_to (by omega) (by omega), firstC_one h1]; rfl
  by_cases h2 : c < 2048
  · rw [one2 h1 h2]
    refine ⟨?_, by simp⟩
    obtain ⟨-, -, e1, e2, e3⟩ : 192 ≤ 192 + c / 64 ∧ 192 + c / 64 < 224 ∧ leadN (192 + c / 64) = 2 ∧ leadC (192 + c / 64) = 192 + c / 64 - 192 ∧ leadM (192 + c / 64) = 128 := by
      rcases lead_cases (192 + c / 64) with h | h | h | h | h <;> first | exact h | (exfalso; omega)
    have g1 := by8_to (n := 128 + c % 64) (by omega) (by omega)
    rw [List.cons_append, firstL_cons, by8_to (by omega) (by omega), firstC_made (by omega) (by rw [e1]; simp), e1, e2, e3]
    show made 2 128 (cont [by8 (128 + c % 64)] _) = _
    rw [cont_on (by rw [g1, goes_true]; omega), g1, cont, made_some (by omega) (by rw [show (192 + c / 64 - 192) * 64 + (128 + c % 64) - 128 = c by omega]; exact hc),
      show (192 + c / 64 - 192) * 64 + (128 + c % 64) - 128 = c by omega]
    rfl
  by_cases h3 : c < 65536
  · rw [one3 h1 h2 h3]
    refine ⟨?_, by simp⟩
    obtain ⟨-, -, e1, e2, e3⟩ : 224 ≤ 224 + c / 4096 ∧ 224 + c / 4096 < 240 ∧ leadN (224 + c / 4096) = 3 ∧ leadC (224 + c / 4096) = 224 + c / 4096 - 224 ∧ leadM (224 + c / 4096) = 2048 := by
      rcases lead_cases (224 + c / 4096) with h | h | h | h | h <;> first | exact h | (exfalso; omega)
    have g1 := by8_to (n := 128 + c % 64) (by omega) (by omega)
    have g2 := by8_to (n := 128 + c / 64 % 64) (by omega) (by omega)
    have ev : ((224 + c / 4096 - 224) * 64 + (128 + c / 64 % 64) - 128) * 64 + (128 + c % 64) - 128 = c := by omega
    rw [List.cons_append, firstL_cons, by8_to (by omega) (by omega), firstC_made (by omega) (by rw [e1]; simp), e1, e2, e3]
    show made 3 2048 (cont [by8 (128 + c / 64 % 64), by8 (128 + c % 64)] _) = _
    rw [cont_on (by rw [g2, goes_true]; omega), g2, cont_on (by rw [g1, goes_true]; omega), g1, cont, ev, made_some (by omega) hc]
    rfl
  · rw [one4 h1 h2 h3]
    refine ⟨?_, by simp⟩
    obtain ⟨-, -, e1, e2, e3⟩ : 240 ≤ 240 + c / 262144 ∧ 240 + c / 262144 < 248 ∧ leadN (240 + c / 262144) = 4 ∧ leadC (240 + c / 262144) = 240 + c / 262144 - 240 ∧ leadM (240 + c / 262144) = 65536 := by
      rcases lead_cases (240 + c / 262144) with h | h | h | h | h <;> first | exact h | (exfalso; omega)
    have g1 := by8_to (n := 128 + c % 64) (by omega) (by omega)
    have g2 := by8_to (n := 128 + c / 64 % 64) (by omega) (by omega)
    have g3 := by8_to (n := 128 + c / 4096 % 64) (by omega) (by omega)
    have ev : (((240 + c / 262144 - 240) * 64 + (128 + c / 4096 % 64) - 128) * 64 + (128 + c / 64 % 64) - 128) * 64 + (128 + c % 64) - 128 = c := by omega
    rw [List.cons_append, firstL_cons, by8_to (by omega) (by omega), firstC_made (by omega) (by rw [e1]; simp), e1, e2, e3]
    show made 4 65536 (cont [by8 (128 + c / 4096 % 64), by8 (128 + c / 64 % 64), by8 (128 + c % 64)] _) = _
    rw [cont_on (by rw [g3, goes_true]; omega), g3, cont_on (by rw [g2, goes_true]; omega), g2, cont_on (by rw [g1, goes_true]; omega), g1, cont, ev, made_some (by omega) hc]
    rfl
theorem cont_out {x : UInt8} {r : List UInt8} {c d : Int} (h : cont (x :: r) c = some d) : goesB (x.toNat : Int) = true ∧ cont r (c * 64 + (x.toNat : Int) - 128) = some d := by
  cases hx : goesB (x.toNat : Int)
  · rw [cont_no hx] at h; cases h
  · rw [cont_on hx] at h; exact ⟨rfl, h⟩
/-- writing undoes reading, a character -/
theorem one_first {l : List UInt8} (hn : (firstL l).2 ≠ 0) : isCh (firstL l).1 = true ∧ oneL (firstL l).1 = l.take (firstL l).2 := by
  cases l with
  | nil => exact absurd rfl hn
  | cons b r =>
    rw [firstL_cons] at hn ⊢
    have hb := b.toNat_lt
    by_cases h : (b.toNat : Int) < 128
    · rw [firstC_one h]
      exact ⟨isCh_true.2 (by omega), by rw [one1 h, by8_of b rfl]; rfl⟩
    by_cases h0 : leadN b.toNat = 0 ∨ r.length + 1 < leadN b.toNat
    · rw [firstC_no h h0] at hn; exact absurd rfl hn
    rw [firstC_made h h0] at hn ⊢
    obtain ⟨c, e1, e2, e3, e4⟩ := made_out hn
    rw [e4]
    refine ⟨e3, ?_⟩
    rcases lead_cases (b.toNat : Int) with ⟨b1, b2, f1, f2, f3⟩ | ⟨b1, b2, f1, f2, f3⟩ | ⟨b1, b2, f1, f2, f3⟩ | ⟨_, f1⟩ | ⟨_, f1⟩
    case inr.inr.inr.inl => exact absurd (.inl f1) h0
    case inr.inr.inr.inr => exact absurd (.inl f1) h0
    · rw [f1] at h0 e1; rw [f2] at e1; rw [f3] at e2; rw [f1]
      rcases r with _ | ⟨x, r⟩
      · simp at h0
      have e1' : cont [x] ((b.toNat : Int) - 192) = some c := e1
      obtain ⟨g, e5⟩ := cont_out e1'
      have hg := goes_true.1 g
      have hc : ((b.toNat : Int) - 192) * 64 + (x.toNat : Int) - 128 = c := Option.some.inj e5
      show oneL c = [b, x]
      rw [one2 (by omega) (by omega), by8_of b (by omega), by8_of x (by omega)]
    · rw [f1] at h0 e1; rw [f2] at e1; rw [f3] at e2; rw [f1]
      rcases r with _ | ⟨x, _ | ⟨y, r⟩⟩
      · simp at h0
      · simp at h0
      have e1' : cont [x, y] ((b.toNat : Int) - 224) = some c := e1
      obtain ⟨g, e5⟩ := cont_out e1'
      obtain ⟨g', e6⟩ := cont_out e5
      have hg := goes_true.1 g
      have hg' := goes_true.1 g'
      have hc : (((b.toNat : Int) - 224) * 64 + (x.toNat : Int) - 128) * 64 + (y.toNat : Int) - 128 = c := Option.some.inj e6
      show oneL c = [b, x, y]
      rw [one3 (by omega) (by omega) (by omega), by8_of b (by omega), by8_of x (by omega), by8_of y (by omega)]
    · rw [f1] at h0 e1; rw [f2] at e1; rw [f3] at e2; rw [f1]
      rcases r with _ | ⟨x, _ | ⟨y, _ | ⟨z, r⟩⟩⟩
      · simp at h0
      · simp at h0
      · simp at h0
      have e1' : cont [x, y, z] ((b.toNat : Int) - 240) = some c := e1
      obtain ⟨g, e5⟩ := cont_out e1'
      obtain ⟨g', e6⟩ := cont_out e5
      obtain ⟨g'', e7⟩ := cont_out e6
      have hg := goes_true.1 g
      have hg' := goes_true.1 g'
      have hg'' := goes_true.1 g''
      have hc : ((((b.toNat : Int) - 240) * 64 + (x.toNat : Int) - 128) * 64 + (y.toNat : Int) - 128) * 64 + (z.toNat : Int) - 128 = c := Option.some.inj e7
      show oneL c = [b, x, y, z]
      rw [one4 (by omega) (by omega) (by omega), by8_of b (by omega), by8_of x (by omega), by8_of y (by omega), by8_of z (by omega)]
/-- the text of characters -/
def writeL (cs : List Int) : List UInt8 := cs.flatMap oneL
theorem writeL_cons (c : Int) (cs : List Int) : writeL (c :: cs) = oneL c ++ writeL cs := List.flatMap_cons
theorem write_runes (l : List UInt8) (h : (validL l).2 = true) : writeL (runesL l) = l := by
  induction hk : l.length using Nat.strongRecOn generalizing l with
  | ind k ih =>
    by_cases h0 : l = []
    · subst h0; rw [runesL_nil]; rfl
    · by_cases hn : (firstL l).2 = 0
      · rw [validL_no h0 hn] at h; cases h
      · rw [validL_on h0 hn] at h
        have hp := List.length_pos_iff.2 h0
        rw [runesL_on h0 hn, writeL_cons, ih _ (by rw [List.length_drop]; omega) _ h rfl, (one_first hn).2, List.take_append_drop]
theorem runes_write (cs : List Int) (h : cs.all isCh = true) : runesL (writeL cs) = cs ∧ validL (writeL cs) = ((writeL cs).length, true) := by
  induction cs with
  | nil => exact ⟨runesL_nil, validL_nil⟩
  | cons c cs ih =>
    rw [List.all_cons, Bool.and_eq_true] at h
    obtain ⟨i1, i2⟩ := ih h.2
    obtain ⟨e1, e2⟩ := first_one h.1 (writeL cs)
    rw [writeL_cons]
    have h0 : oneL c ++ writeL cs ≠ [] := by
      intro h; rw [List.append_eq_nil_iff] at h; rw [h.1] at e2; exact e2 rfl
    have hn : (firstL (oneL c ++ writeL cs)).2 ≠ 0 := by rw [e1]; exact e2
    rw [runesL_on h0 hn, validL_on h0 hn, e1]
    simp only [List.drop_left]
    rw [i1, i2, List.length_append]
    exact ⟨rfl, rfl⟩
theorem runes_ch (l : List UInt8) : (runesL l).all isCh = true := by
  induction hk : l.length using Nat.strongRecOn generalizing l with
  | ind k ih =>
    by_cases h0 : l = []
    · subst h0; rw [runesL_nil]; rfl
    · by_cases hn : (firstL l).2 = 0
      · rw [runesL_no h0 hn]; rfl
      · have hp := List.length_pos_iff.2 h0
        rw [runesL_on h0 hn, List.all_cons, (one_first hn).1, ih _ (by rw [List.length_drop]; omega) _ rfl]; rfl
end Go.Proofs.YthmopindibdhnaaDoor
namespace Go.Proofs.YthmopindibdhnaaDoor
open Go.RowKit
def decL (l : List UInt8) : Nat × Nat :=
  let at' (k : Nat) : Nat := (l.getD k 0).toNat
  let cont (k : Nat) : Bool := k < l.length && at' k / 64 == 2
  let b0 := at' 0
  if b0 < 0x80 then (b0, 1)
  else if b0 / 32 == 6 && cont 1 then
    let c := (b0 % 32) * 64 + at' 1 % 64
    if c ≥ 0x80 then (c, 2) else (Utf8.runeError, 1)
  else if b0 / 16 == 14 && cont 1 && cont 2 then
    let c := (b0 % 16) * 4096 + (at' 1 % 64) * 64 + at' 2 % 64
    if c ≥ 0x800 && Utf8.valid c then (c, 3) else (Utf8.runeError, 1)
  else if b0 / 8 == 30 && cont 1 && cont 2 && cont 3 then
    let c := (b0 % 8) * 262144 + (at' 1 % 64) * 4096 + (at' 2 % 64) * 64 + at' 3 % 64
    if c ≥ 0x10000 && Utf8.valid c then (c, 4) else (Utf8.runeError, 1)
  else (Utf8.runeError, 1)
theorem get_drop (s : ByteArray) (i k : Nat) : s.get! (i + k) = (s.data.toList.drop i).getD k 0 := by
  rw [List.getD_eq_getElem?_getD, List.getElem?_drop]
  show s.data[i + k]! = _
  rw [Array.getElem!_eq_getD, Array.getD_eq_getD_getElem?]
  simp
  rfl
theorem decode_list (s : ByteArray) (i : Nat) : Utf8.decode s i = decL (s.data.toList.drop i) := by
  have h2 : ∀ k, (decide (i + k < s.size)) = decide (k < (s.data.toList.drop i).length) := by
    intro k
    rw [List.length_drop, sizeL]
    congr 1
    exact propext (by omega)
  unfold Utf8.decode decL
  simp only [get_drop, h2]
theorem valid_ch (c : Nat) : Utf8.valid (c : Int) = isCh (c : Int) := by
  rw [Bool.eq_iff_iff, isCh_true]
  simp [Utf8.valid]; omega
theorem made_no {n : Nat} {m c : Int} (h : c < m ∨ isCh c = false) : made n m (some c) = (0, 0) := if_pos h
theorem decL_first (l : List UInt8) (h : l ≠ []) : decL l = if (firstL l).2 = 0 then (65533, 1) else ((firstL l).1.toNat, (firstL l).2) := by
  obtain ⟨b, r, rfl⟩ : ∃ b r, l = b :: r := by cases l with
    | nil => exact absurd rfl h
    | cons b r => exact ⟨b, r, rfl⟩
  rw [firstL_cons]
  have hb := b.toNat_lt
  by_cases h1 : (b.toNat : Int) < 128
  · rw [firstC_one h1]
    have h1' : b.toNat < 128 := by omega
    unfold decL
    simp [h1']
  have hn1 : ¬ b.toNat < 128 := by omega
  have dno : ¬ (192 ≤ b.toNat ∧ b.toNat < 224) → ¬ (224 ≤ b.toNat ∧ b.toNat < 240) → ¬ (240 ≤ b.toNat ∧ b.toNat < 248) → decL (b :: r) = (65533, 1) := by
    intro g1 g2 g3
    have e1 : (b.toNat / 32 == 6) = false := by simp; omega
    have e2 : (b.toNat / 16 == 14) = false := by simp; omega
    have e3 : (b.toNat / 8 == 30) = false := by simp; omega
    unfold decL
    simp [hn1, e1, e2, e3, Utf8.runeError]
  rcases lead_cases (b.toNat : Int) with ⟨b1, b2, f1, f2, f3⟩ | ⟨b1, b2, f1, f2, f3⟩ | ⟨b1, b2, f1, f2, f3⟩ | ⟨b1, f1⟩ | ⟨b1, f1⟩
  case inr.inr.inr.inl => rw [firstC_no h1 (.inl f1), dno (by omega) (by omega) (by omega)]; rfl
  case inr.inr.inr.inr => rw [firstC_no h1 (.inl f1), dno (by omega) (by omega) (by omega)]; rfl
  · have e1 : (b.toNat / 32 == 6) = true := by simp; omega
    have e2 : (b.toNat / 16 == 14) = false := by simp; omega
    have e3 : (b.toNat / 8 == 30) = false := by simp; omega
    rcases r with _ | ⟨x, r⟩
    · rw [firstC_no h1 (.inr (by rw [f1]; simp))]
      unfold decL
      simp [hn1, e1, e2, e3, Utf8.runeError]
    rw [firstC_made h1 (by rw [f1]; simp), f1, f2, f3]
    show _ = if (made 2 128 (cont [x] ((b.toNat : Int) - 192))).2 = 0 then _ else ((made 2 128 (cont [x] ((b.toNat : Int) - 192))).1.toNat, (made 2 128 (cont [x] ((b.toNat : Int) - 192))).2)
    by_cases hx : goesB (x.toNat : Int) = true
    · have hx' := goes_true.1 hx
      have ex : (x.toNat / 64 == 2) = true := by simp; omega
      rw [cont_on hx, cont]
      have ev : ((b.toNat : Int) - 192) * 64 + (x.toNat : Int) - 128 = ((b.toNat % 32 * 64 + x.toNat % 64 : Nat) : Int) := by omega
      rw [ev]
      generalize hc : b.toNat % 32 * 64 + x.toNat % 64 = c
      have hcb : c < 2048 := by omega
      by_cases hl : 128 ≤ c
      · rw [made_some (by omega) (isCh_true.2 (by omega))]
        unfold decL
        simp [hn1, e1, ex, hc, hl]
      · rw [made_no (.inl (by omega))]
        unfold decL
        simp [hn1, e1, ex, hc, hl, Utf8.runeError]
    · have hx' : goesB (x.toNat : Int) = false := by simpa using hx
      have ex : (x.toNat / 64 == 2) = false := by
        have : ¬ (128 ≤ (x.toNat : Int) ∧ (x.toNat : Int) < 192) := fun h => hx (goes_true.2 h)
        simp; omega
      rw [cont_no hx']
      unfold decL
      simp [hn1, e1, e2, e3, ex, Utf8.runeError, made]
  · have e1 : (b.toNat / 32 == 6) = false := by simp; omega
    have e2 : (b.toNat / 16 == 14) = true := by simp; omega
    have e3 : (b.toNat / 8 == 30) = false := by simp; omega
    rcases r with _ | ⟨x, _ | ⟨y, r⟩⟩
    · rw [firstC_no h1 (.inr (by rw [f1]; simp))]
      unfold decL
      simp [hn1, e1, e2, e3, Utf8.runeError]
    · rw [firstC_no h1 (.inr (by rw [f1]; simp))]
      unfold decL
      simp [hn1, e1, e2, e3, Utf8.runeError]
    rw [firstC_made h1 (by rw [f1]; simp), f1, f2, f3]
    show _ = if (made 3 2048 (cont [x, y] ((b.toNat : Int) - 224))).2 = 0 then _ else ((made 3 2048 (cont [x, y] ((b.toNat : Int) - 224))).1.toNat, (made 3 2048 (cont [x, y] ((b.toNat : Int) - 224))).2)
    by_cases hx : goesB (x.toNat : Int) = true
    · have hx' := goes_true.1 hx
      have ex : (x.toNat / 64 == 2) = true := by simp; omega
      rw [cont_on hx]
      by_cases hy : goesB (y.toNat : Int) = true
      · have hy' := goes_true.1 hy
        have ey : (y.toNat / 64 == 2) = true := by simp; omega
        rw [cont_on hy, cont]
        have ev : (((b.toNat : Int) - 224) * 64 + (x.toNat : Int) - 128) * 64 + (y.toNat : Int) - 128 = ((b.toNat % 16 * 4096 + x.toNat % 64 * 64 + y.toNat % 64 : Nat) : Int) := by omega
        rw [ev]
        generalize hc : b.toNat % 16 * 4096 + x.toNat % 64 * 64 + y.toNat % 64 = c
        by_cases hl : 2048 ≤ c ∧ isCh (c : Int) = true
        · rw [made_some (by omega) hl.2]
          unfold decL
          simp [hn1, e1, e2, ex, ey, hc, valid_ch, hl]
        · have hl' : ((c : Int) < 2048 ∨ isCh (c : Int) = false) := by
            by_cases g : 2048 ≤ c
            · right; cases hi : isCh (c : Int)
              · rfl
              · exact absurd ⟨g, hi⟩ hl
            · left; omega
          rw [made_no hl']
          unfold decL
          simp [hn1, e1, e2, ex, ey, hc, valid_ch, Utf8.runeError]
          intro g1
          cases hi : isCh (c : Int)
          · rfl
          · exact absurd ⟨g1, hi⟩ hl
      · have hy' : goesB (y.toNat : Int) = false := by simpa using hy
        have ey : (y.toNat / 64 == 2) = false := by
          have : ¬ (128 ≤ (y.toNat : Int) ∧ (y.toNat : Int) < 192) := fun h => hy (goes_true.2 h)
          simp; omega
        rw [cont_no hy']
        unfold decL
        simp [hn1, e1, e2, e3, ey, Utf8.runeError, made]
    · have hx' : goesB (x.toNat : Int) = false := by simpa using hx
      have ex : (x.toNat / 64 == 2) = false := by
        have : ¬ (128 ≤ (x.toNat : Int) ∧ (x.toNat : Int) < 192) := fun h => hx (goes_true.2 h)
        simp; omega
      rw [cont_no hx']
      unfold decL
      simp [hn1, e1, e2, e3, ex, Utf8.runeError, made]
  · have e1 : (b.toNat / 32 == 6) = false := by simp; omega
    have e2 : (b.toNat / 16 == 14) = false := by simp; omega
    have e3 : (b.toNat / 8 == 30) = true := by simp; omega
    rcases r with _ | ⟨x, _ | ⟨y, _ | ⟨z, r⟩⟩⟩
    · rw [firstC_no h1 (.inr (by rw [f1]; simp))]
      unfold decL
      simp [hn1, e1, e2, e3, Utf8.runeError]
    · rw [firstC_no h1 (.inr (by rw [f1]; simp))]
      unfold decL
      simp [hn1, e1, e2, e3, Utf8.runeError]
    · rw [firstC_no h1 (.inr (by rw [f1]; simp))]
      unfold decL
      simp [hn1, e1, e2, e3, Utf8.runeError]
    rw [firstC_made h1 (by rw [f1]; simp), f1, f2, f3]
    show _ = if (made 4 65536 (cont [x, y, z] ((b.toNat : Int) - 240))).2 = 0 then _ else ((made 4 65536 (cont [x, y, z] ((b.toNat : Int) - 240))).1.toNat, (made 4 65536 (cont [x, y, z] ((b.toNat : Int) - 240))).2)
    by_cases hx : goesB (x.toNat : Int) = true
    · have hx' := goes_true.1 hx
      have ex : (x.toNat / 64 == 2) = true := by simp; omega
      rw [cont_on hx]
      by_cases hy : goesB (y.toNat : Int) = true
      · have hy' := goes_true.1 hy
        have ey : (y.toNat / 64 == 2) = true := by simp; omega
        rw [cont_on hy]
        by_cases hz : goesB (z.toNat : Int) = true
        · have hz' := goes_true.1 hz
          have ez : (z.toNat / 64 == 2) = true := by simp; omega
          rw [cont_on hz, cont]
          have ev : ((((b.toNat : Int) - 240) * 64 + (x.toNat : Int) - 128) * 64 + (y.toNat : Int) - 128) * 64 + (z.toNat : Int) - 128 = ((b.toNat % 8 * 262144 + x.toNat % 64 * 4096 + y.toNat % 64 * 64 + z.toNat % 64 : Nat) : Int) := by omega
          rw [ev]
          generalize hc : b.toNat % 8 * 262144 + x.toNat % 64 * 4096 + y.toNat % 64 * 64 + z.toNat % 64 = c
          by_cases hl : 65536 ≤ c ∧ isCh (c : Int) = true
          · rw [made_some (by omega) hl.2]
            unfold decL
            simp [hn1, e1, e2, e3, ex, ey, ez, hc, valid_ch, hl]
          · have hl' : ((c : Int) < 65536 ∨ isCh (c : Int) = false) := by
              by_cases g : 65536 ≤ c
              · right; cases hi : isCh (c : Int)
                · rfl
                · exact absurd ⟨g, hi⟩ hl
              · left; omega
            rw [made_no hl']
            unfold decL
            simp [hn1, e1, e2, e3, ex, ey, ez, hc, valid_ch, Utf8.runeError]
            intro g1
            cases hi : isCh (c : Int)
            · rfl
            · exact absurd ⟨g1, hi⟩ hl
        · have hz' : goesB (z.toNat : Int) = false := by simpa using hz
          have ez : (z.toNat / 64 == 2) = false := by
            have : ¬ (128 ≤ (z.toNat : Int) ∧ (z.toNat : Int) < 192) := fun h => hz (goes_true.2 h)
            simp; omega
          rw [cont_no hz']
          unfold decL
          simp [hn1, e1, e2, e3, ez, Utf8.runeError, made]
      · have hy' : goesB (y.toNat : Int) = false := by simpa using hy
        have ey : (y.toNat / 64 == 2) = false := by
          have : ¬ (128 ≤ (y.toNat : Int) ∧ (y.toNat : Int) < 192) := fun h => hy (goes_true.2 h)
          simp; omega
        rw [cont_no hy']
        unfold decL
        simp [hn1, e1, e2, e3, ey, Utf8.runeError, made]
    · have hx' : goesB (x.toNat : Int) = false := by simpa using hx
      have ex : (x.toNat / 64 == 2) = false := by
        have : ¬ (128 ≤ (x.toNat : Int) ∧ (x.toNat : Int) < 192) := fun h => hx (goes_true.2 h)
        simp; omega
      rw [cont_no hx']
      unfold decL
      simp [hn1, e1, e2, e3, ex, Utf8.runeError, made]
/-- what a range over a text reads at a place -/
theorem decode_first (s : ByteArray) (i : Nat) (h : i < s.size) : Utf8.decode s i = if (firstL (s.data.toList.drop i)).2 = 0 then (65533, 1) else ((firstL (s.data.toList.drop i)).1.toNat, (firstL (s.data.toList.drop i)).2) := by
  rw [decode_list, decL_first _ (by rw [ne_eq, List.drop_eq_nil_iff, sizeL]; omega)]
theorem decode_ok {s : ByteArray} {i : Nat} (h : i < s.size) (hn : (firstL (s.data.toList.drop i)).2 ≠ 0) : Utf8.decode s i = ((firstL (s.data.toList.drop i)).1.toNat, (firstL (s.data.toList.drop i)).2) := by
  rw [decode_first s i h, if_neg hn]
theorem decode_bad {s : ByteArray} {i : Nat} (h : i < s.size) (hn : (firstL (s.data.toList.drop i)).2 = 0) : Utf8.decode s i = (65533, 1) := by
  rw [decode_first s i h, if_pos hn]
end Go.Proofs.YthmopindibdhnaaDoor
namespace Go.Proofs.YthmopindibdhnaaDoor
open Go.RowKit
theorem writeL_app (a b : List Int) : writeL (a ++ b) = writeL a ++ writeL b := List.flatMap_append
/-- at byte p of the text l, with j characters before it -/
structure At (l : List UInt8) (p j : Nat) : Prop where
  ok : (validL (l.drop p)).2 = true
  le : j ≤ (runesL l).length
  rest : runesL (l.drop p) = (runesL l).drop j
  byte : p = (writeL ((runesL l).take j)).length
  out : writeL (runesL l) = l
theorem At.start {l : List UInt8} (h : (validL l).2 = true) : At l 0 0 := ⟨h, Nat.zero_le _, rfl, rfl, write_runes l h⟩
theorem At.le_len {l : List UInt8} {p j : Nat} (h : At l p j) : p ≤ l.length := by
  have e := congrArg List.length h.out
  rw [h.byte, ← e, ← List.take_append_drop j (runesL l), writeL_app, List.length_append]
  simp
theorem At.first {l : List UInt8} {p j : Nat} (h : At l p j) (hp : p < l.length) : (firstL (l.drop p)).2 ≠ 0 := by
  intro hn
  have hne : l.drop p ≠ [] := by rw [ne_eq, List.drop_eq_nil_iff]; omega
  have := h.ok
  rw [validL_no hne hn] at this
  cases this
theorem At.ch {l : List UInt8} {p j : Nat} (h : At l p j) (hp : p < l.length) : isCh (firstL (l.drop p)).1 = true := (one_first (h.first hp)).1
theorem At.drop {l : List UInt8} {p j : Nat} (h : At l p j) (hp : p < l.length) : (runesL l).drop j = (firstL (l.drop p)).1 :: (runesL l).drop (j + 1) := by
  have hne : l.drop p ≠ [] := by rw [ne_eq, List.drop_eq_nil_iff]; omega
  have h1 := h.rest
  rw [runesL_on hne (h.first hp)] at h1
  obtain ⟨x, t, hx⟩ : ∃ x t, (runesL l).drop j = x :: t := ⟨_, _, h1.symm⟩
  have ht : (runesL l).drop (j + 1) = t := by rw [← List.drop_drop, hx]; rfl
  rw [hx] at h1
  rw [hx, ht, (List.cons.inj h1).1]
theorem At.get {l : List UInt8} {p j : Nat} (h : At l p j) (hp : p < l.length) : (runesL l)[j]? = some (firstL (l.drop p)).1 ∧ j < (runesL l).length := by
  have h1 := h.drop hp
  have h2 : ((runesL l).drop j)[0]? = some (firstL (l.drop p)).1 := by rw [h1]; rfl
  rw [List.getElem?_drop, Nat.add_zero] at h2
  exact ⟨h2, (List.getElem?_eq_some_iff.1 h2).1⟩
theorem At.take {l : List UInt8} {p j : Nat} (h : At l p j) (hp : p < l.length) : (runesL l).take (j + 1) = (runesL l).take j ++ [(firstL (l.drop p)).1] := by
  obtain ⟨h1, h2⟩ := h.get hp
  rw [List.take_add_one, h1]; rfl
theorem At.next {l : List UInt8} {p j : Nat} (h : At l p j) (hp : p < l.length) : At l (p + (firstL (l.drop p)).2) (j + 1) := by
  have hne : l.drop p ≠ [] := by rw [ne_eq, List.drop_eq_nil_iff]; omega
  have hn := h.first hp
  obtain ⟨h1, h2⟩ := h.get hp
  refine ⟨?_, h2, ?_, ?_, h.out⟩
  · have := h.ok
    rw [validL_on hne hn, List.drop_drop] at this
    exact this
  · have h3 := h.rest
    rw [runesL_on hne hn, h.drop hp, List.drop_drop] at h3
    exact (List.cons.inj h3).2
  · rw [h.take hp, writeL_app, List.length_append, ← h.byte]
    show _ = p + (oneL _ ++ []).length
    rw [List.append_nil, (one_first hn).2, List.length_take]
    have := firstL_len (l.drop p)
    omega
theorem At.fin {l : List UInt8} {p j : Nat} (h : At l p j) (hp : ¬ p < l.length) : j = (runesL l).length := by
  have h1 := h.rest
  rw [List.drop_eq_nil_of_le (by omega), runesL_nil] at h1
  have h2 := congrArg List.length h1
  rw [List.length_drop, List.length_nil] at h2
  have := h.le
  omega
theorem oneL_len (c : Int) : 1 ≤ (oneL c).length ∧ (oneL c).length ≤ 4 := by
  unfold oneL
  split
  · simp
  · split
    · simp
    · split <;> simp
/-- the bytes before a place -/
def offB (l : List UInt8) (k : Nat) : Nat := (writeL ((runesL l).take k)).length
theorem offB_take {l : List UInt8} (h : writeL (runesL l) = l) (k : Nat) : l.take (offB l k) = writeL ((runesL l).take k) := by
  have e : l = writeL ((runesL l).take k) ++ writeL ((runesL l).drop k) := by rw [← writeL_app, List.take_append_drop, h]
  unfold offB
  generalize (runesL l).take k = a at *
  generalize (runesL l).drop k = b at *
  rw [e]
  exact List.take_left' rfl
theorem offB_drop {l : List UInt8} (h : writeL (runesL l) = l) (k : Nat) : l.drop (offB l k) = writeL ((runesL l).drop k) := by
  have e : l = writeL ((runesL l).take k) ++ writeL ((runesL l).drop k) := by rw [← writeL_app, List.take_append_drop, h]
  unfold offB
  generalize (runesL l).take k = a at *
  generalize (runesL l).drop k = b at *
  rw [e]
  exact List.drop_left' rfl
theorem offB_le {l : List UInt8} (h : writeL (runesL l) = l) (k : Nat) : offB l k ≤ l.length := by
  have := congrArg List.length (offB_take h k)
  rw [List.length_take] at this
  unfold offB at *
  omega
theorem offB_all {l : List UInt8} (h : writeL (runesL l) = l) {k : Nat} (hk : (runesL l).length ≤ k) : offB l k = l.length := by
  unfold offB; rw [List.take_of_length_le hk, h]
/-- the number of characters -/
theorem count_from (s : ByteArray) : ∀ (fuel p j : Nat), At s.data.toList p j → s.size ≤ p + fuel → Lib.runeCountFrom s fuel p = (runesL s.data.toList).length - j
  | 0, p, j, h, hf => by
    have hp : ¬ p < s.data.toList.length := by rw [sizeL]; omega
    have := h.fin hp
    unfold Lib.runeCountFrom; omega
  | f + 1, p, j, h, hf => by
    by_cases hp : p < s.size
    · have hp' : p < s.data.toList.length := by rw [sizeL]; exact hp
      have hn := h.first hp'
      have h2 := (h.get hp').2
      have ih := count_from s f _ _ (h.next hp') (by omega)
      unfold Lib.runeCountFrom
      rw [if_pos hp, decode_ok hp hn, ih]
      omega
    · have hp' : ¬ p < s.data.toList.length := by rw [sizeL]; exact hp
      have := h.fin hp'
      unfold Lib.runeCountFrom
      rw [if_neg hp]; omega
theorem count_runes (s : ByteArray) (h : (validL s.data.toList).2 = true) : Lib.runeCount s = (runesL s.data.toList).length := by
  unfold Lib.runeCount
  rw [count_from s s.size 0 0 (At.start h) (by omega), Nat.sub_zero]
theorem valid_write {cs : List Int} (h : cs.all isCh = true) : (validL (writeL cs)).2 = true := by rw [(runes_write cs h).2]
theorem valid_len (l : List UInt8) : (validL l).2 = true → (validL l).1 = l.length := by
  intro h
  have e := write_runes l h
  have := (runes_write (runesL l) (runes_ch l)).2
  rw [e] at this; rw [this]
theorem all_take {cs : List Int} (h : cs.all isCh = true) (k : Nat) : (cs.take k).all isCh = true := by
  rw [List.all_eq_true] at h ⊢
  exact fun x hx => h x (List.mem_of_mem_take hx)
theorem all_drop {cs : List Int} (h : cs.all isCh = true) (k : Nat) : (cs.drop k).all isCh = true := by
  rw [List.all_eq_true] at h ⊢
  exact fun x hx => h x (List.mem_of_mem_drop hx)
/-- the end of a part -/
def subF (W f : Int) : Int := if f < 0 then f + W else f
def subE (W f n : Int) : Int := if n < 0 then max (W + n) f else if n < W - f then f + n else W
def subL (cs : List Int) (f n : Int) : List Int := (cs.take (subE cs.length f n).toNat).drop f.toNat
end Go.Proofs.YthmopindibdhnaaDoor
namespace Go.Proofs
open Go.Shelf
def Tryd.lays99_ren : Go.Shelf.Ren := ⟨fun | 99 => 28 | 206 => 38 | n => n, fun | 9 => 9 | 4 => 4 | 3 => 3 | n => n, fun | n => n⟩
theorem Tryd.lays99 : Go.Proofs.Lays.n99 Tryd.prog Tryd.lays99_ren := {
  mixed := by kernel_rfl
  f99 := Tryd.func28.trans (congrArg some (by kernel_rfl))
  f206 := Tryd.func38.trans (congrArg some (by kernel_rfl))
  t3 := Tryd.underlying3
  a3 := Tryd.isAgg3
  z3 := Tryd.sizeOf3
  v3 := Tryd.zeroValue3
  t4 := Tryd.underlying4
  a4 := Tryd.isAgg4
  z4 := Tryd.sizeOf4
  v4 := Tryd.zeroValue4
  t9 := Tryd.underlying9
  a9 := Tryd.isAgg9
  z9 := Tryd.sizeOf9
  v9 := Tryd.zeroValue9 }
def Tryd.lays169_ren : Go.Shelf.Ren := ⟨fun | 169 => 19 | n => n, fun | 70 => 45 | 9 => 9 | 0 => 0 | 72 => 48 | 37 => 46 | 127 => 65 | 3 => 3 | 5 => 5 | n => n, fun | n => n⟩
theorem Tryd.lays169 : Go.Proofs.Lays.n169 Tryd.prog Tryd.lays169_ren := {
  mixed := by kernel_rfl
  f169 := Tryd.func19.trans (congrArg some (by kernel_rfl))
  t0 := Tryd.underlying0
  a0 := Tryd.isAgg0
  z0 := Tryd.sizeOf0
  v0 := Tryd.zeroValue0
  t3 := Tryd.underlying3
  a3 := Tryd.isAgg3
  z3 := Tryd.sizeOf3
  v3 := Tryd.zeroValue3
  t9 := Tryd.underlying9
  a9 := Tryd.isAgg9
  z9 := Tryd.sizeOf9
  v9 := Tryd.zeroValue9
  t37 := Tryd.underlying46
  a37 := Tryd.isAgg46
  z37 := Tryd.sizeOf46
  v37 := Tryd.zeroValue46
  t70 := Tryd.underlying45
  a70 := Tryd.isAgg45
  z70 := Tryd.sizeOf45
  v70 := Tryd.zeroValue45
  t72 := Tryd.underlying48
  a72 := Tryd.isAgg48
  z72 := Tryd.sizeOf48
  v72 := Tryd.zeroValue48
  t127 := Tryd.underlying65
  a127 := Tryd.isAgg65
  z127 := Tryd.sizeOf65
  v127 := Tryd.zeroValue65 }
end Go.Proofs
namespace Go.Proofs.YthmopindibdhnaaDoor
open Go.RowKit Go.Shelf
def hl166_ren : Go.Shelf.Ren := ⟨fun | 166 => 14 | 240 => 24 | 276 => 36 | n => n, fun | 0 => 0 | 3 => 3 | 4 => 4 | 5 => 5 | 9 => 9 | 20 => 20 | 37 => 46 | 70 => 45 | 72 => 48 | 75 => 50 | 80 => 57 | 164 => 69 | n => n, fun | n => n⟩
theorem hl166 : Go.Proofs.Lays.n166 Tryd.prog hl166_ren := {
  mixed := by kernel_rfl
  f166 := Tryd.func14.trans (congrArg some (by kernel_rfl))
  f240 := Tryd.func24.trans (congrArg some (by kernel_rfl))
  f276 := Tryd.func36.trans (congrArg some (by kernel_rfl))
  t0 := Tryd.underlying0
  a0 := Tryd.isAgg0
  z0 := Tryd.sizeOf0
  v0 := Tryd.zeroValue0
  t3 := Tryd.underlying3
  a3 := Tryd.isAgg3
  z3 := Tryd.sizeOf3
  v3 := Tryd.zeroValue3
  t4 := Tryd.underlying4
  a4 := Tryd.isAgg4
  z4 := Tryd.sizeOf4
  v4 := Tryd.zeroValue4
  t9 := Tryd.underlying9
  a9 := Tryd.isAgg9
  z9 := Tryd.sizeOf9
  v9 := Tryd.zeroValue9
  t20 := Tryd.underlying20
  a20 := Tryd.isAgg20
  z20 := Tryd.sizeOf20
  v20 := Tryd.zeroValue20
  t37 := Tryd.underlying46
  a37 := Tryd.isAgg46
  z37 := Tryd.sizeOf46
  v37 := Tryd.zeroValue46
  t70 := Tryd.underlying45
  a70 := Tryd.isAgg45
  z70 := Tryd.sizeOf45
  v70 := Tryd.zeroValue45
  t72 := Tryd.underlying48
  a72 := Tryd.isAgg48
  z72 := Tryd.sizeOf48
  v72 := Tryd.zeroValue48
  t75 := Tryd.underlying50
  a75 := Tryd.isAgg50
  z75 := Tryd.sizeOf50
  v75 := Tryd.zeroValue50
  t164 := Tryd.underlying69
  a164 := Tryd.isAgg69
  z164 := Tryd.sizeOf69
  v164 := Tryd.zeroValue69 }
theorem extra166 : Builder.Extra Tryd.prog hl166_ren where
  sizeBuilder := by kernel_rfl
  liesBuilder := by kernel_rfl
  t5 := Tryd.underlying5
  a5 := Tryd.isAgg5
  z5 := Tryd.sizeOf5
  v5 := Tryd.zeroValue5
  infoByte := by kernel_rfl
  cellsByte := by kernel_rfl
  sizeByte := by kernel_rfl
  neB5 := by decide
theorem extra169 : Builder.Extra Tryd.prog Tryd.lays169_ren where
  sizeBuilder := by kernel_rfl
  liesBuilder := by kernel_rfl
  t5 := Tryd.underlying5
  a5 := Tryd.isAgg5
  z5 := Tryd.sizeOf5
  v5 := Tryd.zeroValue5
  infoByte := by kernel_rfl
  cellsByte := by kernel_rfl
  sizeByte := by kernel_rfl
  neB5 := by decide
/-- a builder of the call's own in block B, that holds the bytes l -/
def Bld (B : Nat) (l : List UInt8) (w : World) : Prop := Lib.IsBuilderF 48 5 B B (Lib.byteCells l) w
def Oth (B : Nat) (w w' : World) : Prop := Lib.OthersKept 5 (some B) w w'
theorem strCells_of (s : ByteArray) : Lib.strCells s = Lib.byteCells s.data.toList := by
  unfold Lib.strCells Lib.byteCells
  rfl
theorem oneL_rune {c : Int} (h : isCh c = true) : Lib.encodeRune c = oneL c := by
  have hb := isCh_true.1 h
  unfold Lib.encodeRune Lib.encodeRuneZ oneL by8
  by_cases h1 : c < 128
  · rw [if_pos (by omega), if_pos h1]; rfl
  rw [if_neg (by omega), if_neg h1]
  by_cases h2 : c < 2048
  · rw [if_pos (by omega), if_pos h2]; rfl
  rw [if_neg (by omega), if_neg h2]
  by_cases h3 : c < 65536
  · rw [if_pos (by omega), if_pos h3]; rfl
  rw [if_neg (by omega), if_neg h3, if_pos (by omega)]; rfl
theorem bld_string {B : Nat} {l : List UInt8} (s : ByteArray) {w : World} (h : Bld B l w) (hl : l.length + s.size ≤ 140737488355328) (hB : B ≤ w.heap.size) :
    Calls Tryd.prog 14 #[.pointer (some ⟨B, 0, none⟩), .string s] w fun e w' => e = .returned (.tuple #[.int .i64 s.size, .nilIface]) ∧ (Bld B (l ++ s.data.toList) w' ∧ Below B w w' ∧ Oth B w w') :=
  (Any.Builder_WriteString_k hl166 extra166 B B (Lib.byteCells l) s w h (by rw [Lib.byteCells_length]; exact hl) hB).mono fun _ _ ⟨he, h1, h2, h3⟩ => ⟨he, by
    unfold Bld; rw [Lib.byteCells_append, ← strCells_of]; exact Or.inr h1, h2, h3⟩
theorem bld_text {B : Nat} {l : List UInt8} {w : World} (h : Bld B l w) (hB : B ≤ w.heap.size) :
    Calls Tryd.prog 19 #[.pointer (some ⟨B, 0, none⟩)] w fun e w' => e = .returned (.string ⟨l.toArray⟩) ∧ Below B w w' :=
  (Any.Builder_String_any_k Tryd.lays169 extra169 B B l w h hB).mono fun _ _ ⟨he, _, h2, _⟩ => ⟨he, h2⟩
theorem bld_new (w : World) : Bld w.heap.size [] (w.alloc (.cells #[.pointer none, .slice none 0 0] 48)) := Lib.IsBuilderF.of (Lib.fresh_isBuilder _ _ w)
theorem prefix_any (s p : ByteArray) (w : World) : Calls Tryd.prog 28 #[.string s, .string p] w fun e w' => e = .returned (.bool (Lib.hasPrefix s.data.toList p.data.toList)) ∧ w = w' :=
  (Any.strings_HasPrefix Tryd.lays99 s p w).mono fun _ _ ⟨he, h⟩ => ⟨he, h.symm⟩
end Go.Proofs.YthmopindibdhnaaDoor
