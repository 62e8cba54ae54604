/- Escapes: the plain functions, and that what was escaped is read back. Names no function of the program. -/
import Derived.Test.YtcaoknlgbocgpaaGreatDoorCUtf2
namespace Go.Proofs.YtcaoknlgbocgpaaGreatDoor
def hexD (d : Nat) : UInt8 := if d < 10 then UInt8.ofNat (48 + d) else UInt8.ofNat (87 + d)
/-- small hexadecimal digits -/
def hexL (u : Nat) : List UInt8 := if _h : u < 16 then [hexD u] else hexL (u / 16) ++ [hexD (u % 16)]
termination_by u
decreasing_by exact Nat.div_lt_self (by omega) (by omega)
theorem hexL_one {u : Nat} (h : u < 16) : hexL u = [hexD u] := by rw [hexL, dif_pos h]
theorem hexL_more {u : Nat} (h : ¬ u < 16) : hexL u = hexL (u / 16) ++ [hexD (u % 16)] := by rw [hexL, dif_neg h]
theorem hexL_len (k : Nat) : ∀ u, u < 16 ^ (k + 1) → (hexL u).length ≤ k + 1 ∧ 1 ≤ (hexL u).length := by
  induction k with
  | zero => intro u hu; rw [hexL_one (by omega)]; simp
  | succ k ih =>
    intro u hu
    by_cases h : u < 16
    · rw [hexL_one h]; simp
    · have := ih (u / 16) (by rw [Nat.pow_succ] at hu; exact Nat.div_lt_of_lt_mul (by omega))
      rw [hexL_more h, List.length_append]
      simp; omega
/-- the value of a hexadecimal digit, -1: none -/
def hexV (b : Int) : Int := if 48 ≤ b ∧ b ≤ 57 then b - 48 else if 97 ≤ b ∧ b ≤ 102 then b - 87 else if 65 ≤ b ∧ b ≤ 70 then b - 55 else -1
theorem hexV_hexD : ∀ d, d < 16 → hexV ((hexD d).toNat : Int) = (d : Int) := by decide
/-- at most m hexadecimal digits, read on from c: the number, and how many there were -/
def hexRun : Nat → List UInt8 → Int → Int × Nat
  | 0, _, c => (c, 0)
  | _ + 1, [], c => (c, 0)
  | m + 1, x :: r, c => if hexV (x.toNat : Int) < 0 then (c, 0) else ((hexRun m r (c * 16 + hexV (x.toNat : Int))).1, (hexRun m r (c * 16 + hexV (x.toNat : Int))).2 + 1)
theorem hexRun_stop (m : Nat) {x : UInt8} {r : List UInt8} {c : Int} (h : hexV (x.toNat : Int) < 0) : hexRun m (x :: r) c = (c, 0) := by
  cases m with
  | zero => rfl
  | succ m => rw [hexRun, if_pos h]
theorem hexRun_on (m : Nat) {x : UInt8} {r : List UInt8} {c : Int} (h : ¬ hexV (x.toNat : Int) < 0) :
    hexRun (m + 1) (x :: r) c = ((hexRun m r (c * 16 + hexV (x.toNat : Int))).1, (hexRun m r (c * 16 + hexV (x.toNat : Int))).2 + 1) := by
  rw [hexRun, if_neg h]
theorem hexRun_hex (u : Nat) : ∀ (k : Nat) (t : List UInt8), hexRun (k + (hexL u).length) (hexL u ++ t) 0 = ((hexRun k t (u : Int)).1, (hexRun k t (u : Int)).2 + (hexL u).length) := by
  induction u using Nat.strongRecOn with
  | ind u ih =>
    intro k t
    by_cases h : u < 16
    · rw [hexL_one h]
      show hexRun (k + 1) (hexD u :: t) 0 = _
      rw [hexRun_on k (by rw [hexV_hexD u h]; omega), hexV_hexD u h, show (0 : Int) * 16 + (u : Int) = (u : Int) by omega]
      rfl
    · have hd : u % 16 < 16 := Nat.mod_lt _ (by decide)
      have hv := hexV_hexD (u % 16) hd
      rw [hexL_more h, List.length_append, List.append_assoc]
      show hexRun (k + ((hexL (u / 16)).length + 1)) (hexL (u / 16) ++ (hexD (u % 16) :: t)) 0 = _
      rw [show k + ((hexL (u / 16)).length + 1) = (k + 1) + (hexL (u / 16)).length by omega, ih (u / 16) (Nat.div_lt_self (by omega) (by omega)), hexRun_on k (by rw [hv]; omega), hv,
        show ((u / 16 : Nat) : Int) * 16 + ((u % 16 : Nat) : Int) = (u : Int) by omega]
      show (_, _ + 1 + (hexL (u / 16)).length) = (_, _ + ((hexL (u / 16)).length + 1))
      congr 1; omega
/-- the character that x{H} at the begin of a text is, and how many bytes that has; (0, 0): none -/
def braced (l : List UInt8) : Int × Nat :=
  if l.take 2 = [120, 123] then
    (if (hexRun 6 (l.drop 2) 0).2 = 0 then (0, 0) else if (l.drop (2 + (hexRun 6 (l.drop 2) 0).2)).head? = some 125 ∧ isCh (hexRun 6 (l.drop 2) 0).1 = true then ((hexRun 6 (l.drop 2) 0).1, (hexRun 6 (l.drop 2) 0).2 + 3) else (0, 0))
  else (0, 0)
theorem braced_hex {u : Nat} (h : isCh (u : Int) = true) (r : List UInt8) : braced (120 :: 123 :: (hexL u ++ 125 :: r)) = ((u : Int), (hexL u).length + 3) := by
  have hb := isCh_true.1 h
  obtain ⟨l1, l2⟩ := hexL_len 5 u (by show u < 16777216; omega)
  have hr : hexRun 6 (hexL u ++ 125 :: r) 0 = ((u : Int), (hexL u).length) := by
    have := hexRun_hex u (6 - (hexL u).length) (125 :: r)
    rw [show 6 - (hexL u).length + (hexL u).length = 6 by omega, hexRun_stop _ (by decide), Nat.zero_add] at this
    exact this
  unfold braced
  have hr2 : hexRun 6 ((120 :: 123 :: (hexL u ++ 125 :: r)).drop 2) 0 = ((u : Int), (hexL u).length) := hr
  rw [if_pos (show (120 :: 123 :: (hexL u ++ 125 :: r)).take 2 = [120, 123] from rfl), hr2, if_neg (by simp only; omega)]
  have hdr : (120 :: 123 :: (hexL u ++ 125 :: r)).drop (2 + (hexL u).length) = 125 :: r := by
    rw [show 2 + (hexL u).length = (hexL u).length + 1 + 1 by omega, List.drop_succ_cons, List.drop_succ_cons]
    exact List.drop_left
  rw [if_pos ⟨by rw [hdr]; rfl, h⟩]
/-- a text with escapes, read; none: it is wrong -/
def unescL (l : List UInt8) : Option (List UInt8) :=
  if _h : l = [] then some []
  else if l.head? = some 92 then
    (if (l.drop 1).head? = some 92 then (unescL (l.drop 2)).map (92 :: ·)
    else if (braced (l.drop 1)).2 = 0 then none else (unescL (l.drop (1 + (braced (l.drop 1)).2))).map (oneL (braced (l.drop 1)).1 ++ ·))
  else (unescL (l.drop 1)).map (l.take 1 ++ ·)
termination_by l.length
decreasing_by all_goals (rw [List.length_drop]; have := List.length_pos_iff.2 _h; omega)
theorem unescL_nil : unescL [] = some [] := by rw [unescL, dif_pos rfl]
theorem unescL_byte {b : UInt8} {r : List UInt8} (h : b ≠ 92) : unescL (b :: r) = (unescL r).map (b :: ·) := by
  rw [unescL, dif_neg (by simp), if_neg (by simpa using h)]; rfl
theorem unescL_two (r : List UInt8) : unescL (92 :: 92 :: r) = (unescL r).map (92 :: ·) := by
  rw [unescL, dif_neg (by simp), if_pos (show ((92 : UInt8) :: 92 :: r).head? = some 92 from rfl), if_pos (show (((92 : UInt8) :: 92 :: r).drop 1).head? = some 92 from rfl)]; rfl
theorem unescL_no {r : List UInt8} (h : r.head? ≠ some 92) (hb : (braced r).2 = 0) : unescL (92 :: r) = none := by
  rw [unescL, dif_neg (by simp), if_pos (show ((92 : UInt8) :: r).head? = some 92 from rfl)]
  show (if r.head? = some 92 then _ else if (braced r).2 = 0 then none else _) = _
  rw [if_neg h, if_pos hb]
theorem unescL_brace {r : List UInt8} (h : r.head? ≠ some 92) (hb : (braced r).2 ≠ 0) : unescL (92 :: r) = (unescL (r.drop (braced r).2)).map (oneL (braced r).1 ++ ·) := by
  rw [unescL, dif_neg (by simp), if_pos (show ((92 : UInt8) :: r).head? = some 92 from rfl)]
  show (if r.head? = some 92 then _ else if (braced r).2 = 0 then none else (unescL ((92 :: r).drop (1 + (braced r).2))).map (oneL (braced r).1 ++ ·)) = _
  rw [if_neg h, if_neg hb, Nat.add_comm 1, List.drop_succ_cons]
/-- a character with escapes -/
def escC (c : Int) : List UInt8 := if c = 92 then [92, 92] else if c < 32 ∨ 126 < c then 92 :: 120 :: 123 :: (hexL c.toNat ++ [125]) else oneL c
theorem unesc_esc {c : Int} (hc : isCh c = true) (r : List UInt8) : unescL (escC c ++ r) = (unescL r).map (oneL c ++ ·) := by
  have hb := isCh_true.1 hc
  unfold escC
  by_cases h1 : c = 92
  · subst h1
    rw [if_pos rfl]
    show unescL (92 :: 92 :: r) = _
    rw [unescL_two]; rfl
  rw [if_neg h1]
  by_cases h2 : c < 32 ∨ 126 < c
  · rw [if_pos h2]
    obtain ⟨u, rfl⟩ : ∃ u : Nat, c = (u : Int) := ⟨c.toNat, by omega⟩
    rw [Int.toNat_natCast]
    have e := braced_hex hc r
    have ea : 92 :: 120 :: 123 :: (hexL u ++ [125]) ++ r = 92 :: (120 :: 123 :: (hexL u ++ 125 :: r)) := by simp
    rw [ea, unescL_brace (by show some (120 : UInt8) ≠ some 92; decide) (by rw [e]; simp), e]
    have hdr : (120 :: 123 :: (hexL u ++ 125 :: r)).drop ((hexL u).length + 3) = r := by
      rw [show (hexL u).length + 3 = ((hexL u).length + 1) + 1 + 1 by omega, List.drop_succ_cons, List.drop_succ_cons, ← List.drop_drop]
      rw [List.drop_left]; rfl
    simp only
    rw [hdr]
  · rw [if_neg h2, one1 (by omega)]
    show unescL (by8 c :: r) = _
    rw [unescL_byte]
    · rfl
    · intro h
      have := by8_to (n := c) (by omega) (by omega)
      rw [h] at this
      exact h1 this.symm
theorem unesc_escs (cs : List Int) (h : cs.all isCh = true) : unescL (cs.flatMap escC) = some (writeL cs) := by
  induction cs with
  | nil => exact unescL_nil
  | cons c cs ih =>
    rw [List.all_cons, Bool.and_eq_true] at h
    rw [List.flatMap_cons, unesc_esc h.1, ih h.2, writeL_cons]; rfl
end Go.Proofs.YtcaoknlgbocgpaaGreatDoor
