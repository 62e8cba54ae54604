/- Places in a valid text: the characters read so far, the bytes before a place, the number of characters. Names no function of the program. -/
import Derived.Test.YtaoehbnjipegoaaDoorCDec
namespace Go.Proofs.YtaoehbnjipegoaaDoor
open Go.RowKit
theorem writeL_app (a b : List Int) : writeL (a ++ b) = writeL a ++ writeL b := List.flatMap_append
/-- at byte p of the text l, with j characters before it -/
structure At (l : List UInt8) (p j : Nat) : Prop where
  ok : (validL (l.drop p)).2 = true
  le : j ≤ (runesL l).length
  rest : runesL (l.drop p) = (runesL l).drop j
  byte : p = (writeL ((runesL l).take j)).length
  out : writeL (runesL l) = l
theorem At.start {l : List UInt8} (h : (validL l).2 = true) : At l 0 0 := ⟨h, Nat.zero_le _, rfl, rfl, write_runes l h⟩
theorem At.le_len {l : List UInt8} {p j : Nat} (h : At l p j) : p ≤ l.length := by
  have e := congrArg List.length h.out
  rw [h.byte, ← e, ← List.take_append_drop j (runesL l), writeL_app, List.length_append]
  simp
theorem At.first {l : List UInt8} {p j : Nat} (h : At l p j) (hp : p < l.length) : (firstL (l.drop p)).2 ≠ 0 := by
  intro hn
  have hne : l.drop p ≠ [] := by rw [ne_eq, List.drop_eq_nil_iff]; omega
  have := h.ok
  rw [validL_no hne hn] at this
  cases this
theorem At.ch {l : List UInt8} {p j : Nat} (h : At l p j) (hp : p < l.length) : isCh (firstL (l.drop p)).1 = true := (one_first (h.first hp)).1
theorem At.drop {l : List UInt8} {p j : Nat} (h : At l p j) (hp : p < l.length) : (runesL l).drop j = (firstL (l.drop p)).1 :: (runesL l).drop (j + 1) := by
  have hne : l.drop p ≠ [] := by rw [ne_eq, List.drop_eq_nil_iff]; omega
  have h1 := h.rest
  rw [runesL_on hne (h.first hp)] at h1
  obtain ⟨x, t, hx⟩ : ∃ x t, (runesL l).drop j = x :: t := ⟨_, _, h1.symm⟩
  have ht : (runesL l).drop (j + 1) = t := by rw [← List.drop_drop, hx]; rfl
  rw [hx] at h1
  rw [hx, ht, (List.cons.inj h1).1]
theorem At.get {l : List UInt8} {p j : Nat} (h : At l p j) (hp : p < l.length) : (runesL l)[j]? = some (firstL (l.drop p)).1 ∧ j < (runesL l).length := by
  have h1 := h.drop hp
  have h2 : ((runesL l).drop j)[0]? = some (firstL (l.drop p)).1 := by rw [h1]; rfl
  rw [List.getElem?_drop, Nat.add_zero] at h2
  exact ⟨h2, (List.getElem?_eq_some_iff.1 h2).1⟩
theorem At.take {l : List UInt8} {p j : Nat} (h : At l p j) (hp : p < l.length) : (runesL l).take (j + 1) = (runesL l).take j ++ [(firstL (l.drop p)).1] := by
  obtain ⟨h1, h2⟩ := h.get hp
  rw [List.take_add_one, h1]; rfl
theorem At.next {l : List UInt8} {p j : Nat} (h : At l p j) (hp : p < l.length) : At l (p + (firstL (l.drop p)).2) (j + 1) := by
  have hne : l.drop p ≠ [] := by rw [ne_eq, List.drop_eq_nil_iff]; omega
  have hn := h.first hp
  obtain ⟨h1, h2⟩ := h.get hp
  refine ⟨?_, h2, ?_, ?_, h.out⟩
  · have := h.ok
    rw [validL_on hne hn, List.drop_drop] at this
    exact this
  · have h3 := h.rest
    rw [runesL_on hne hn, h.drop hp, List.drop_drop] at h3
    exact (List.cons.inj h3).2
  · rw [h.take hp, writeL_app, List.length_append, ← h.byte]
    show _ = p + (oneL _ ++ []).length
    rw [List.append_nil, (one_first hn).2, List.length_take]
    have := firstL_len (l.drop p)
    omega
theorem At.fin {l : List UInt8} {p j : Nat} (h : At l p j) (hp : ¬ p < l.length) : j = (runesL l).length := by
  have h1 := h.rest
  rw [List.drop_eq_nil_of_le (by omega), runesL_nil] at h1
  have h2 := congrArg List.length h1
  rw [List.length_drop, List.length_nil] at h2
  have := h.le
  omega
theorem oneL_len (c : Int) : 1 ≤ (oneL c).length ∧ (oneL c).length ≤ 4 := by
  unfold oneL
  split
  · simp
  · split
    · simp
    · split <;> simp
/-- the bytes before a place -/
def offB (l : List UInt8) (k : Nat) : Nat := (writeL ((runesL l).take k)).length
theorem offB_take {l : List UInt8} (h : writeL (runesL l) = l) (k : Nat) : l.take (offB l k) = writeL ((runesL l).take k) := by
  have e : l = writeL ((runesL l).take k) ++ writeL ((runesL l).drop k) := by rw [← writeL_app, List.take_append_drop, h]
  unfold offB
  generalize (runesL l).take k = a at *
  generalize (runesL l).drop k = b at *
  rw [e]
  exact List.take_left' rfl
theorem offB_drop {l : List UInt8} (h : writeL (runesL l) = l) (k : Nat) : l.drop (offB l k) = writeL ((runesL l).drop k) := by
  have e : l = writeL ((runesL l).take k) ++ writeL ((runesL l).drop k) := by rw [← writeL_app, List.take_append_drop, h]
  unfold offB
  generalize (runesL l).take k = a at *
  generalize (runesL l).drop k = b at *
  rw [e]
  exact List.drop_left' rfl
theorem offB_le {l : List UInt8} (h : writeL (runesL l) = l) (k : Nat) : offB l k ≤ l.length := by
  have := congrArg List.length (offB_take h k)
  rw [List.length_take] at this
  unfold offB at *
  omega
theorem offB_all {l : List UInt8} (h : writeL (runesL l) = l) {k : Nat} (hk : (runesL l).length ≤ k) : offB l k = l.length := by
  unfold offB; rw [List.take_of_length_le hk, h]
/-- the number of characters -/
theorem count_from (s : ByteArray) : ∀ (fuel p j : Nat), At s.data.toList p j → s.size ≤ p + fuel → Lib.runeCountFrom s fuel p = (runesL s.data.toList).length - j
  | 0, p, j, h, hf => by
    have hp : ¬ p < s.data.toList.length := by rw [sizeL]; omega
    have := h.fin hp
    unfold Lib.runeCountFrom; omega
  | f + 1, p, j, h, hf => by
    by_cases hp : p < s.size
    · have hp' : p < s.data.toList.length := by rw [sizeL]; exact hp
      have hn := h.first hp'
      have h2 := (h.get hp').2
      have ih := count_from s f _ _ (h.next hp') (by omega)
      unfold Lib.runeCountFrom
      rw [if_pos hp, decode_ok hp hn, ih]
      omega
    · have hp' : ¬ p < s.data.toList.length := by rw [sizeL]; exact hp
      have := h.fin hp'
      unfold Lib.runeCountFrom
      rw [if_neg hp]; omega
theorem count_runes (s : ByteArray) (h : (validL s.data.toList).2 = true) : Lib.runeCount s = (runesL s.data.toList).length := by
  unfold Lib.runeCount
  rw [count_from s s.size 0 0 (At.start h) (by omega), Nat.sub_zero]
theorem valid_write {cs : List Int} (h : cs.all isCh = true) : (validL (writeL cs)).2 = true := by rw [(runes_write cs h).2]
theorem valid_len (l : List UInt8) : (validL l).2 = true → (validL l).1 = l.length := by
  intro h
  have e := write_runes l h
  have := (runes_write (runesL l) (runes_ch l)).2
  rw [e] at this; rw [this]
theorem all_take {cs : List Int} (h : cs.all isCh = true) (k : Nat) : (cs.take k).all isCh = true := by
  rw [List.all_eq_true] at h ⊢
  exact fun x hx => h x (List.mem_of_mem_take hx)
theorem all_drop {cs : List Int} (h : cs.all isCh = true) (k : Nat) : (cs.drop k).all isCh = true := by
  rw [List.all_eq_true] at h ⊢
  exact fun x hx => h x (List.mem_of_mem_drop hx)
/-- the end of a part -/
def subF (W f : Int) : Int := if f < 0 then f + W else f
def subE (W f n : Int) : Int := if n < 0 then max (W + n) f else if n < W - f then f + n else W
def subL (cs : List Int) (f n : Int) : List Int := (cs.take (subE cs.length f n).toNat).drop f.toNat
end Go.Proofs.YtaoehbnjipegoaaDoor
