/- Plain mathematics of the reference's head: where the digits of a text begin and end. -/
import Derived.Test.YthdchkjipafmfaaDoorPlain
namespace Go.Proofs.YthdchkjipafmfaaDoor

theorem take_get {p : UInt8 → Bool} : ∀ {l : List UInt8} {k : Nat}, k < (l.takeWhile p).length → ∃ b, l[k]? = some b ∧ p b = true
  | [], k, h => by simp at h
  | a :: l, k, h => by
    rw [List.takeWhile_cons] at h
    split at h
    · rename_i ha
      cases k with
      | zero => exact ⟨a, rfl, ha⟩
      | succ k => exact take_get (l := l) (k := k) (by simpa using h)
    · simp at h
theorem take_end {p : UInt8 → Bool} : ∀ {l : List UInt8} {b : UInt8}, l[(l.takeWhile p).length]? = some b → p b = false
  | [], b, h => by simp at h
  | a :: l, b, h => by
    rw [List.takeWhile_cons] at h
    split at h
    · exact take_end (l := l) (by simpa using h)
    · rename_i ha
      simp at h
      subst h
      simpa using ha
theorem take_le {p : UInt8 → Bool} (l : List UInt8) : (l.takeWhile p).length ≤ l.length := (List.takeWhile_prefix p).length_le
theorem drop_take {p : UInt8 → Bool} : ∀ l : List UInt8, l.dropWhile p = l.drop (l.takeWhile p).length
  | [] => rfl
  | a :: r => by
    rw [List.takeWhile_cons, List.dropWhile_cons]
    split
    · simpa using drop_take r
    · rfl
theorem unb_drop (l : List UInt8) : unb l = l.drop (nb l) := drop_take l
/-- where the digits begin, and where they end -/
def hI (l : List UInt8) : Nat := nb l + sgL (unb l)
def hK (l : List UInt8) : Nat := hI l + (digs l).length
theorem sgL_le (l : List UInt8) : sgL l ≤ l.length := by
  unfold sgL; cases l with
  | nil => simp
  | cons a l => simp only; split <;> simp
theorem sgL_one (l : List UInt8) : sgL l ≤ 1 := by
  unfold sgL; split
  · split <;> omega
  · omega
theorem body_drop (l : List UInt8) : body l = l.drop (hI l) := by
  unfold body hI; rw [unb_drop, List.drop_drop]
theorem rest_drop (l : List UInt8) : rest l = l.drop (hK l) := by
  have : rest l = (body l).drop (digs l).length := drop_take (body l)
  rw [this, body_drop, List.drop_drop]; rfl
theorem nb_le (l : List UInt8) : nb l ≤ l.length := take_le l
theorem hI_le (l : List UInt8) : hI l ≤ l.length := by
  unfold hI
  have h1 := sgL_le (unb l)
  have h2 := nb_le l
  rw [unb_drop, List.length_drop] at h1
  rw [unb_drop]; omega
theorem hK_le (l : List UInt8) : hK l ≤ l.length := by
  have h1 := hI_le l
  have h2 : (digs l).length ≤ (body l).length := take_le _
  rw [body_drop, List.length_drop] at h2
  unfold hK; omega
theorem blk_at {l : List UInt8} {k : Nat} (h : k < nb l) : ∃ b, l[k]? = some b ∧ isBlk b = true := take_get h
theorem blk_end {l : List UInt8} {b : UInt8} (h : l[nb l]? = some b) : isBlk b = false := take_end h
theorem head_at (l : List UInt8) : l[nb l]? = (unb l).head? := by rw [unb_drop]; simp
theorem dig_at {l : List UInt8} {k : Nat} (h1 : hI l ≤ k) (h2 : k < hK l) : ∃ b, l[k]? = some b ∧ isDig b = true := by
  obtain ⟨b, hb, hd⟩ := take_get (p := isDig) (l := body l) (k := k - hI l) (by unfold hK at h2; change _ < (digs l).length; omega)
  rw [body_drop, List.getElem?_drop] at hb
  exact ⟨b, by rw [← hb]; congr 1; omega, hd⟩
theorem dig_end {l : List UInt8} {b : UInt8} (h : l[hK l]? = some b) : isDig b = false := by
  refine take_end (l := body l) ?_
  show (body l)[(digs l).length]? = some b
  rw [body_drop, List.getElem?_drop]
  exact h
/-- the digits from hI on, as far as k -/
theorem digs_take {l : List UInt8} {k : Nat} (h1 : hI l ≤ k) (h2 : k < hK l) {b : UInt8} (hb : l[k]? = some b) : (digs l).take (k + 1 - hI l) = (digs l).take (k - hI l) ++ [b] := by
  have hlt : k - hI l < (digs l).length := by unfold hK at h2; omega
  have hb' : (digs l)[k - hI l]? = some b := by
    have e : (digs l)[k - hI l]? = (body l)[k - hI l]? := by
      have hp : digs l <+: body l := List.takeWhile_prefix _
      rw [List.getElem?_eq_getElem hlt]
      obtain ⟨t, ht⟩ := hp
      rw [← ht, List.getElem?_append_left hlt, List.getElem?_eq_getElem hlt]
    rw [e, body_drop, List.getElem?_drop, ← hb]; congr 1; omega
  rw [show k + 1 - hI l = (k - hI l) + 1 from by omega, List.take_add_one, hb']; rfl
theorem val_top {l : List UInt8} {k : Nat} (h : val (l.take k) = maxNum) : val l = maxNum := by
  rw [← List.take_append_drop k l]
  generalize l.drop k = r at *
  generalize l.take k = a at *
  induction r generalizing a with
  | nil => simpa using h
  | cons b r ih =>
    have := ih (a ++ [b]) (by rw [val_snoc, h]; unfold maxNum; omega)
    simpa using this
end Go.Proofs.YthdchkjipafmfaaDoor
