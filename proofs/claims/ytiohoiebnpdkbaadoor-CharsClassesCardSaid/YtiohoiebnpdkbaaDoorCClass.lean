/- The classes by name: which rows each has, that its spans are the document's. -/
import Derived.Test.YtiohoiebnpdkbaaDoorCSpanP
namespace Go.Proofs.YtiohoiebnpdkbaaDoor
open Go.RowKit Go.Shelf
/-- what the program has of a class: its rows in order, the spans in order -/
structure Has (s : ByteArray) (q : Int → Bool) (l : List (List (Int × Int))) (L : List (Int × Int)) : Prop where
  rows : RowsAt s l
  nine : ∀ r ∈ l, r.length = 9
  good : ∀ r ∈ l, ∀ p ∈ r, 0 ≤ p.1 ∧ p.1 ≤ p.2 ∧ p.2 ≤ 1114111
  ne : l ≠ []
  six : l.length ≤ 6
  nz : allNz l ≠ []
  perm : L.Perm (allNz l)
  sorted : L.Pairwise (fun a b => a.1 ≤ b.1)
  apart : ∀ a ∈ L, ∀ b ∈ L, a.1 = b.1 → a = b
  few : (allNz l).length < 1000
  small : ∀ p ∈ L, 0 ≤ p.1 ∧ p.1 ≤ 1114111 ∧ 0 ≤ p.2 ∧ p.2 ≤ 1114111
  isq : ∀ c, (isCh c && hasR l c) = (isCh c && q c)
theorem rowsAt {s : ByteArray} {own : List (Int × Int)} {i : Nat} {b1 b2 : Bool} (hf : Instr.findNow .string (.string s) tabE 0 = some (some (i, rowV own))) (hl : own.length = 9)
    (h1 : (s.toList == [119, 111, 114, 100]) = b1) (h2 : (s.toList == [108, 101, 116, 116, 101, 114]) = b2) : RowsAt s (own :: extraR b1 b2) := fun w => rows_p hf hl h1 h2 w
theorem and_iff {c : Int} {a b : Bool} (h : isCh c = true → (a = true ↔ b = true)) : (isCh c && a) = (isCh c && b) := by
  by_cases hc : isCh c = true
  · rw [hc, Bool.true_and, Bool.true_and, Bool.eq_iff_iff]; exact h hc
  · rw [show isCh c = false by simpa using hc]; rfl
def sorted_upper : List (Int × Int) := [(65, 90), (192, 214), (216, 222), (913, 929), (931, 937), (1040, 1071), (7838, 7838), (8490, 8491)]
set_option maxRecDepth 100000 in
set_option maxHeartbeats 4000000 in
theorem has_upper : Has ⟨#[117, 112, 112, 101, 114]⟩ upperB (row_upper :: extraR false false) sorted_upper where
  rows := rowsAt (i := 0) rfl rfl (by rw [ByteArray.toList_eq]; decide) (by rw [ByteArray.toList_eq]; decide)
  nine := by decide
  good := by decide
  ne := by decide
  six := by decide
  nz := by decide
  perm := by decide
  sorted := by decide
  apart := by decide
  few := by decide
  small := by decide
  isq c := and_iff fun hc => by simp [hasR, hasB, extraR, inP, zeroP, row_upper, upperB, upA, inB] <;> omega
theorem join_upper : joinL sorted_upper = spansL upperB := by rw [spans_upper]; decide
def sorted_lower : List (Int × Int) := [(97, 122), (181, 181), (223, 246), (248, 255), (329, 329), (383, 383), (945, 969), (1072, 1103), (64256, 64262)]
set_option maxRecDepth 100000 in
set_option maxHeartbeats 4000000 in
theorem has_lower : Has ⟨#[108, 111, 119, 101, 114]⟩ lowerB (row_lower :: extraR false false) sorted_lower where
  rows := rowsAt (i := 1) rfl rfl (by rw [ByteArray.toList_eq]; decide) (by rw [ByteArray.toList_eq]; decide)
  nine := by decide
  good := by decide
  ne := by decide
  six := by decide
  nz := by decide
  perm := by decide
  sorted := by decide
  apart := by decide
  few := by decide
  small := by decide
  isq c := and_iff fun hc => by simp [hasR, hasB, extraR, inP, zeroP, row_lower, lowerB, inB] <;> omega
theorem join_lower : joinL sorted_lower = spansL lowerB := by rw [spans_lower]; decide
def sorted_letter : List (Int × Int) := [(65, 90), (97, 122), (170, 170), (181, 181), (186, 186), (192, 214), (216, 222), (223, 246), (248, 255), (329, 329), (383, 383), (700, 700), (913, 929), (931, 937), (945, 969), (1040, 1071), (1072, 1103), (7838, 7838), (8490, 8491), (64256, 64262)]
set_option maxRecDepth 100000 in
set_option maxHeartbeats 4000000 in
theorem has_letter : Has ⟨#[108, 101, 116, 116, 101, 114]⟩ letterB (row_letter :: extraR false true) sorted_letter where
  rows := rowsAt (i := 2) rfl rfl (by rw [ByteArray.toList_eq]; decide) (by rw [ByteArray.toList_eq]; decide)
  nine := by decide
  good := by decide
  ne := by decide
  six := by decide
  nz := by decide
  perm := by decide
  sorted := by decide
  apart := by decide
  few := by decide
  small := by decide
  isq c := and_iff fun hc => by simp [hasR, hasB, extraR, inP, zeroP, row_letter, row_upper, row_lower, letterB, upperB, lowerB, upA, inB] <;> omega
theorem join_letter : joinL sorted_letter = spansL letterB := by rw [spans_letter]; decide
def sorted_digit : List (Int × Int) := [(48, 57), (1632, 1641)]
set_option maxRecDepth 100000 in
set_option maxHeartbeats 4000000 in
theorem has_digit : Has ⟨#[100, 105, 103, 105, 116]⟩ digitB (row_digit :: extraR false false) sorted_digit where
  rows := rowsAt (i := 3) rfl rfl (by rw [ByteArray.toList_eq]; decide) (by rw [ByteArray.toList_eq]; decide)
  nine := by decide
  good := by decide
  ne := by decide
  six := by decide
  nz := by decide
  perm := by decide
  sorted := by decide
  apart := by decide
  few := by decide
  small := by decide
  isq c := and_iff fun hc => by simp [hasR, hasB, extraR, inP, zeroP, row_digit, digitB, inB] <;> omega
theorem join_digit : joinL sorted_digit = spansL digitB := by rw [spans_digit]; decide
def sorted_mark : List (Int × Int) := [(768, 879)]
set_option maxRecDepth 100000 in
set_option maxHeartbeats 4000000 in
theorem has_mark : Has ⟨#[109, 97, 114, 107]⟩ markB (row_mark :: extraR false false) sorted_mark where
  rows := rowsAt (i := 4) rfl rfl (by rw [ByteArray.toList_eq]; decide) (by rw [ByteArray.toList_eq]; decide)
  nine := by decide
  good := by decide
  ne := by decide
  six := by decide
  nz := by decide
  perm := by decide
  sorted := by decide
  apart := by decide
  few := by decide
  small := by decide
  isq c := and_iff fun hc => by simp [hasR, hasB, extraR, inP, zeroP, row_mark, markB, inB] <;> omega
theorem join_mark : joinL sorted_mark = spansL markB := by rw [spans_mark]; decide
def sorted_blank : List (Int × Int) := [(9, 13), (32, 32), (133, 133), (160, 160), (8232, 8233)]
set_option maxRecDepth 100000 in
set_option maxHeartbeats 4000000 in
theorem has_blank : Has ⟨#[98, 108, 97, 110, 107]⟩ blankB (row_blank :: extraR false false) sorted_blank where
  rows := rowsAt (i := 5) rfl rfl (by rw [ByteArray.toList_eq]; decide) (by rw [ByteArray.toList_eq]; decide)
  nine := by decide
  good := by decide
  ne := by decide
  six := by decide
  nz := by decide
  perm := by decide
  sorted := by decide
  apart := by decide
  few := by decide
  small := by decide
  isq c := and_iff fun hc => by simp [hasR, hasB, extraR, inP, zeroP, row_blank, blankB, inB] <;> omega
theorem join_blank : joinL sorted_blank = spansL blankB := by rw [spans_blank]; decide
def sorted_word : List (Int × Int) := [(48, 57), (65, 90), (95, 95), (97, 122), (170, 170), (181, 181), (186, 186), (192, 214), (216, 222), (223, 246), (248, 255), (329, 329), (383, 383), (700, 700), (768, 879), (913, 929), (931, 937), (945, 969), (1040, 1071), (1072, 1103), (1632, 1641), (7838, 7838), (8490, 8491), (64256, 64262)]
set_option maxRecDepth 100000 in
set_option maxHeartbeats 4000000 in
theorem has_word : Has ⟨#[119, 111, 114, 100]⟩ wordB (row_word :: extraR true false) sorted_word where
  rows := rowsAt (i := 6) rfl rfl (by rw [ByteArray.toList_eq]; decide) (by rw [ByteArray.toList_eq]; decide)
  nine := by decide
  good := by decide
  ne := by decide
  six := by decide
  nz := by decide
  perm := by decide
  sorted := by decide
  apart := by decide
  few := by decide
  small := by decide
  isq c := and_iff fun hc => by simp [hasR, hasB, extraR, inP, zeroP, row_word, row_letter, row_digit, row_mark, row_upper, row_lower, wordB, letterB, upperB, lowerB, digitB, markB, upA, inB] <;> omega
theorem join_word : joinL sorted_word = spansL wordB := by rw [spans_word]; decide
def sorted_any : List (Int × Int) := [(0, 55295), (57344, 1114111)]
set_option maxRecDepth 100000 in
set_option maxHeartbeats 4000000 in
theorem has_any : Has ⟨#[97, 110, 121]⟩ (fun _ => true) (row_any :: extraR false false) sorted_any where
  rows := rowsAt (i := 7) rfl rfl (by rw [ByteArray.toList_eq]; decide) (by rw [ByteArray.toList_eq]; decide)
  nine := by decide
  good := by decide
  ne := by decide
  six := by decide
  nz := by decide
  perm := by decide
  sorted := by decide
  apart := by decide
  few := by decide
  small := by decide
  isq c := and_iff fun hc => by simp [isCh] at hc; simp [hasR, hasB, extraR, inP, zeroP, row_any] <;> omega
theorem join_any : joinL sorted_any = [(0, 55295), (57344, 1114111)] := by decide
end Go.Proofs.YtiohoiebnpdkbaaDoor
