/- BJEsc BkD BkA BkB -/
import Derived.Test.YthmopindibdhnaaDoorM21
namespace Go.Proofs.YthmopindibdhnaaDoor.G
open Go.RowKit Go.Shelf Go.Maps
def escGC (z : List UInt8) (c : UInt8) : List UInt8 := if z.contains c = true then [92, c] else [c]
def escG (z l : List UInt8) : List UInt8 := l.flatMap (escGC z)
section
variable {l : List UInt8} {i : Nat}
theorem escG_step (z : List UInt8) (h : i < l.length) : escG z (l.take (i + 1)) = escG z (l.take i) ++ escGC z l[i] := by
  rw [List.take_add_one, List.getElem?_eq_getElem h]
  simp only [escG, Option.toList, List.flatMap_append, List.flatMap_cons, List.flatMap_nil, List.append_nil]
theorem escGC_len (z : List UInt8) (c : UInt8) : (escGC z c).length ≤ 2 := by unfold escGC; split <;> simp
theorem escG_len (z l : List UInt8) : (escG z l).length ≤ 2 * l.length := by
  unfold escG
  induction l with
  | nil => simp
  | cons c t ih => rw [List.flatMap_cons, List.length_append, List.length_cons]; have := escGC_len z c; omega
theorem idxG (z : List UInt8) (c : UInt8) : decide (0 ≤ Lib.indexByte z (c.toNat : Int).toNat.toUInt8) = z.contains c := by
  have e : (c.toNat : Int).toNat.toUInt8 = c := by simp
  rw [e]
  induction z with
  | nil => rfl
  | cons b t ih =>
    have hg := Lib.indexByte_ge t c
    unfold Lib.indexByte
    rw [List.contains_cons, ← ih]
    by_cases hb : b = c
    · subst hb; simp
    · have h1 : (b == c) = false := by simpa using hb
      have h2 : (c == b) = false := by simpa using fun e : c = b => hb e.symm
      rw [h1, h2]
      simp only [Bool.false_eq_true, if_false, Bool.false_or]
      by_cases hm : Lib.indexByte t c = -1
      · rw [hm]; rfl
      · have h3 : (Lib.indexByte t c == -1) = false := by simpa using hm
        rw [h3]
        simp only [Bool.false_eq_true, if_false]
        congr 1
        exact propext ⟨fun h => by omega, fun h => by omega⟩
/-- what stands before a byte when k of them have been looked at -/
def preG (z : List UInt8) (x : UInt8) (k : Nat) : List UInt8 := if (z.take k).contains x = true then [92] else []
theorem preG_len (z : List UInt8) (x : UInt8) (k : Nat) : (preG z x k).length ≤ 1 := by unfold preG; split <;> simp
theorem preG_off {z : List UInt8} {x : UInt8} {k : Nat} (h : k < z.length) (hx : x ≠ z[k]) : preG z x (k + 1) = preG z x k := by
  have e : (z.take (k + 1)).contains x = (z.take k).contains x := by
    rw [List.take_succ_eq_append_getElem h]
    cases hc : (z.take k).contains x with
    | true =>
      rw [List.contains_iff_mem] at hc ⊢
      exact List.mem_append_left _ hc
    | false =>
      cases hd : (z.take k ++ [z[k]]).contains x with
      | false => rfl
      | true =>
        rw [List.contains_iff_mem, List.mem_append, List.mem_singleton] at hd
        rcases hd with hd | hd
        · rw [← List.contains_iff_mem, hc] at hd; cases hd
        · exact absurd hd hx
  unfold preG
  rw [e]
theorem preG_on {z : List UInt8} {x : UInt8} {k : Nat} (hd : z.Nodup) (h : k < z.length) (hx : x = z[k]) : preG z x (k + 1) = preG z x k ++ [92] := by
  have h1 : (z.take k).contains x = false := by
    cases hc : (z.take k).contains x with
    | false => rfl
    | true =>
      exfalso
      rw [List.contains_iff_mem] at hc
      have hn := List.Nodup.sublist (List.take_sublist (k + 1) z) hd
      rw [List.take_succ_eq_append_getElem h, List.nodup_append] at hn
      exact hn.2.2 x hc x (by rw [hx]; exact List.mem_singleton.2 rfl) rfl
  have h2 : (z.take (k + 1)).contains x = true := by
    rw [List.contains_iff_mem, List.take_succ_eq_append_getElem h, hx]
    exact List.mem_append_right _ (List.mem_singleton.2 rfl)
  unfold preG
  rw [h1, h2]
  rfl
theorem preG_all (z : List UInt8) (x : UInt8) (k : Nat) (h : z.length ≤ k) : escGC z x = preG z x k ++ [x] := by
  unfold escGC preG
  rw [List.take_of_length_le h]
  cases z.contains x <;> rfl
end
section
variable {l : List UInt8} {i : Nat}
set_option maxRecDepth 100000 in
set_option maxHeartbeats 1000000 in
theorem escG_p (z s : ByteArray) (hs : s.size ≤ 1000000) (w : World) :
    Calls Tryd.prog 26 #[.string s, .string z] w fun e w' => e = .returned (.string (ba (escG z.data.toList s.data.toList))) ∧ Gr w w' := by
  obtain ⟨l, hl⟩ : ∃ l, l = s.data.toList := ⟨_, rfl⟩
  have hsz : s.size = l.length := by rw [hl, ← sizeL]
  have HB := Lib.hid (fun n (h : n < s.size) (h' : n < l.length) => (show s[n] = l[n] by subst hl; exact byteE s n h h'))
  have HI := Lib.hid (fun x w => idx_any z x w)
  obtain ⟨zl, hzl⟩ : ∃ zl, zl = z.data.toList := ⟨_, rfl⟩
  rw [← hzl] at HI ⊢
  clear hzl
  rw [← hl]
  obtain ⟨R, hR⟩ : ∃ R, R = escG zl l := ⟨_, rfl⟩
  rw [← hR]
  have HR := Lib.hid hR
  have Hsz := Lib.hid hsz
  clear hl hsz hR
  go_enter Tryd.func26, Tryd.ntmps26
  go_wp2_with fail
  generalize hW : w.alloc (.cells #[.pointer none, .slice none 0 0] 48) = W1
  have G1 : Hid (Gr w W1) := Lib.hid (by rw [← hW]; exact (Gr.refl w).alloc _)
  have hBl : Hid (Bld w.heap.size [] W1) := Lib.hid (by rw [← hW]; exact bld_new w)
  have hsz1 : Hid (W1.heap.size = w.heap.size + 1) := Lib.hid (by rw [← hW]; simp)
  clear hW
  go_loopw [6, 9] (fun _ iv wr => ∃ i : Nat, iv = .int .i64 (i : Int) ∧ i ≤ s.size ∧ Bld w.heap.size (escG zl (l.take i)) wr ∧ Gr w wr ∧ w.heap.size + 1 ≤ wr.heap.size) (fun _ iv _ => leftTo s.size iv)
  case atStart => exact ⟨0, rfl, Nat.zero_le _, hBl.out, G1.out, by rw [hsz1.out]; exact Nat.le_refl _⟩
  case round =>
    obtain ⟨i, rfl, hi, hB, hG, hZ⟩ := hrel
    have Bl := Lib.hid hB
    have Gg := Lib.hid hG
    have Z := Lib.hid hZ
    clear hB hG hZ hBl hsz1 G1
    by_cases hc : i < s.size
    · have hci : (i : Int) < (s.size : Int) := by omega
      have hL : i < l.length := by rw [← Hsz.out]; exact hc
      have ex := HB.out i hc hL
      have hst := Lib.hid (escG_step zl hL)
      have hi1 : (i : Int) + 1 ≤ 9223372036854775807 := by omega
      have hi2 : -9223372036854775808 ≤ (i : Int) + 1 := by omega
      have hln : Hid ((escG zl (l.take i)).length ≤ 2000000) := Lib.hid (by have := escG_len zl (l.take i); rw [List.length_take] at this; omega)
      have hI := Lib.hid (fun w => HI.out (l[i].toNat : Int) w)
      have hq := idxG zl l[i]
      generalize l[i] = x at *
      generalize Lib.indexByte zl (x.toNat : Int).toNat.toUInt8 = r at *
      by_cases hx : zl.contains x = true
      · have hE : Hid (escGC zl x = [92, x]) := Lib.hid (by unfold escGC; rw [if_pos hx])
        have tr : (0 : Int) ≤ r := by rw [hx] at hq; exact of_decide_eq_true hq
        clear hq hx HB HI hL
        go_wp2_with fail
        refine (hI.out _).mono ?_
        rintro e w1 ⟨rfl, rfl⟩
        go_wp2_with fail
        refine (bld_byte 92 Bl.out (by have := hln.out; omega) (by have := Z.out; omega)).mono ?_
        rintro e w2 ⟨rfl, hl2, hb2, _⟩
        have B2 := Lib.hid hl2
        have G2 := Lib.hid (Gr.below' Gg.out hb2)
        have Z2 : Hid (w.heap.size + 1 ≤ w2.heap.size) := Lib.hid (Nat.le_trans Z.out hb2.size)
        clear hl2 hb2 Bl Gg Z
        go_wp2_with fail
        refine (bld_byte x B2.out (by have := hln.out; simp; omega) (by have := Z2.out; omega)).mono ?_
        rintro e w3 ⟨rfl, hl3, hb3, _⟩
        have B3 := Lib.hid hl3
        have G3 := Lib.hid (Gr.below' G2.out hb3)
        have Z3 : Hid (w.heap.size + 1 ≤ w3.heap.size) := Lib.hid (Nat.le_trans Z2.out hb3.size)
        clear hl3 hb3 B2 G2 Z2
        go_wp2_with fail
        go_roundw
        case rel => exact ⟨i + 1, rfl, hc, by rw [hst.out, hE.out]; simpa using B3.out, G3.out, Z3.out⟩
        case measure => simp only [leftTo]; omega
      · have hE : Hid (escGC zl x = [x]) := Lib.hid (by unfold escGC; rw [if_neg hx])
        have tr : decide ((0 : Int) ≤ r) = false := by rw [hq]; simpa using hx
        clear hq hx HB HI hL
        go_wp2_with fail
        refine (hI.out _).mono ?_
        rintro e w1 ⟨rfl, rfl⟩
        go_wp2_with fail
        refine (bld_byte x Bl.out (by have := hln.out; omega) (by have := Z.out; omega)).mono ?_
        rintro e w3 ⟨rfl, hl3, hb3, _⟩
        have B3 := Lib.hid hl3
        have G3 := Lib.hid (Gr.below' Gg.out hb3)
        have Z3 : Hid (w.heap.size + 1 ≤ w3.heap.size) := Lib.hid (Nat.le_trans Z.out hb3.size)
        clear hl3 hb3 Bl Gg Z
        go_wp2_with fail
        go_roundw
        case rel => exact ⟨i + 1, rfl, hc, by rw [hst.out, hE.out]; simpa using B3.out, G3.out, Z3.out⟩
        case measure => simp only [leftTo]; omega
    · have hci : decide ((i : Int) < (s.size : Int)) = false := by simp; omega
      have hci' : decide (i < s.size) = false := by simp; omega
      have E : Hid (R = escG zl (l.take i)) := Lib.hid (by rw [HR.out, List.take_of_length_le (by have := Hsz.out; omega)])
      clear HB HI hc
      go_wp2_with fail
      refine (bld_text Bl.out (by have := Z.out; omega)).mono ?_
      rintro e2 w3 ⟨rfl, hb3⟩
      have G3 := Lib.hid (Gr.below' Gg.out hb3)
      clear hb3
      go_wp2
      go_ret
      exact ⟨by rw [E.out]; rfl, G3.out⟩
end
end Go.Proofs.YthmopindibdhnaaDoor.G
namespace Go.Proofs.YthmopindibdhnaaDoor.G.Bk
open Go.RowKit Go.Shelf
def plR (o q : UInt8) : List UInt8 → List UInt8
  | [] => []
  | [x] => [x]
  | x :: y :: t => if x = 92 ∧ (y = 92 ∨ y = o ∨ y = q) then y :: plR o q t else x :: plR o q (y :: t)
theorem plR_len (o q : UInt8) : ∀ l, (plR o q l).length ≤ l.length
  | [] => Nat.le_refl _
  | [x] => Nat.le_refl _
  | x :: y :: t => by
    rw [plR]
    split
    · have := plR_len o q t; simp; omega
    · have := plR_len o q (y :: t); simp at this ⊢; omega
def patR : List UInt8 → List UInt8
  | [] => []
  | [x] => [x]
  | x :: y :: t => if x = 92 then (if y = 47 then y :: patR t else x :: y :: patR t) else x :: patR (y :: t)
theorem patR_len : ∀ l, (patR l).length ≤ l.length
  | [] => Nat.le_refl _
  | [x] => Nat.le_refl _
  | x :: y :: t => by
    have h1 := patR_len t
    have h2 := patR_len (y :: t)
    rw [patR]
    split
    · split <;> simp <;> omega
    · simp at h2 ⊢; omega
def woR : List UInt8 → Bool → List UInt8 → List UInt8
  | acc, _, [] => acc
  | acc, pb, c :: t => if blkB c.toNat = true then woR acc true t else woR ((if acc ≠ [] ∧ pb = true then acc ++ [32] else acc) ++ [c]) false t
def wordsR (l : List UInt8) : List UInt8 := woR [] false l
def goesB (o q : UInt8) (sl : Bool) (y : UInt8) : Bool := (((y == o || y == q) && !(y == 34)) && !(y == 92)) || (sl && y == 47)
def inR (o q : UInt8) (sl : Bool) : List UInt8 → List UInt8
  | [] => []
  | [x] => if x = 34 then [92, 34] else [x]
  | x :: y :: t => if x = 92 then (if goesB o q sl y = true then y :: inR o q sl t else 92 :: y :: inR o q sl t) else if x = 34 then 92 :: 34 :: inR o q sl (y :: t) else x :: inR o q sl (y :: t)
theorem inR_len (o q : UInt8) (sl : Bool) : ∀ l, (inR o q sl l).length ≤ 2 * l.length
  | [] => Nat.le_refl _
  | [x] => by rw [inR]; split <;> simp
  | x :: y :: t => by
    have h1 := inR_len o q sl t
    have h2 := inR_len o q sl (y :: t)
    simp only [List.length_cons] at h2
    rw [inR]
    split
    · split <;> simp only [List.length_cons] <;> omega
    · split <;> simp only [List.length_cons] <;> omega
theorem inR_1 (o q : UInt8) (sl : Bool) (x : UInt8) : inR o q sl [x] = if x = 34 then [92, 34] else [x] := by rw [inR]

def textV (t : RTok) : List UInt8 := if t.form = 0 then t.raw else if t.form = 1 then plR t.o (partU t.o) t.raw else if t.form = 2 then inR t.o (partU t.o) false t.raw else if t.form = 3 then wordsR (plR t.o (partU t.o) t.raw) else if t.form = 4 then patR t.raw else if t.form = 5 then patR t.raw else if t.form = 6 then plR t.o (partU t.o) t.raw else inR 34 34 false t.raw
def replV (t : RTok) : List UInt8 := if t.form = 5 then inR t.o2 (partU t.o2) true t.raw2 else if t.form = 6 then plR t.o2 (partU t.o2) t.raw2 else []
end Go.Proofs.YthmopindibdhnaaDoor.G.Bk
namespace Go.Proofs.YthmopindibdhnaaDoor.G.Bk
open Go.RowKit Go.Shelf
/-- bytes of which none goes on with a word, a number, a sign or flags stand behind -/
def Stp (K : List UInt8) : Prop := ∀ c, K[0]? = some c → c = 32 ∨ c = 123 ∨ c = 36
def Blk (K : List UInt8) : Prop := ∀ c, K[0]? = some c → c = 32
theorem Blk.stp {K : List UInt8} (h : Blk K) : Stp K := fun c hc => .inl (h c hc)
theorem sep_as (l : List UInt8) (n : Nat) : sepAt l n = true ↔ l[n]? = some 58 ∧ l[n + 1]? = some 58 ∧ ∃ e, l[n + 2]? = some e ∧ alphaB e.toNat = true := by
  have h0 : l[n]? = (l.drop n)[0]? := by simp
  have h1 : l[n + 1]? = (l.drop n)[1]? := by simp
  unfold sepAt
  rw [h0, h1]
  generalize l.drop n = d
  cases e2 : l[n + 2]? with
  | none => simp
  | some e =>
    rcases d with _ | ⟨a, _ | ⟨b, t⟩⟩
    · simp [Lib.hasPrefix]
    · simp [Lib.hasPrefix]
    · simp only [Lib.hasPrefix, Bool.and_eq_true, List.isPrefixOf, beq_iff_eq, List.getElem?_cons_zero, List.getElem?_cons_succ, Option.some.injEq]
      constructor
      · rintro ⟨⟨ha, hb, _⟩, hc⟩; exact ⟨ha.symm, hb.symm, e, rfl, hc⟩
      · rintro ⟨ha, hb, e', he, hc⟩; subst he; exact ⟨⟨ha.symm, hb.symm, trivial⟩, hc⟩
theorem stp_word {c : UInt8} (h : c = 32 ∨ c = 123 ∨ c = 36) : (alphaB c.toNat || digB c.toNat) = false ∧ c ≠ 58 := by
  rcases h with rfl | rfl | rfl <;> decide
theorem wordR_cut {X Y : List UInt8} : ∀ f g n, n ≤ X.length → X.length ≤ n + f → Y.length ≤ n + g → (∀ i, i < wordR X f n → X[i]? = Y[i]?) →
    (∀ c, Y[wordR X f n]? = some c → c = 32 ∨ c = 123 ∨ c = 36) → wordR Y g n = wordR X f n := by
  intro f
  induction f using Nat.strongRecOn with
  | ind f ih =>
    intro g n hn hf hg hE hS
    have stop : wordR X f n = n → wordR Y g n = n := fun e => by
      by_cases hy : n < Y.length
      · have := stp_word (hS Y[n] (by rw [e]; exact List.getElem?_eq_getElem hy))
        refine wordR_stop hy this.1 ?_
        cases hs : sepAt Y n with
        | false => rfl
        | true =>
          have := ((sep_as Y n).1 hs).1
          rw [List.getElem?_eq_getElem hy] at this
          injection this with this
          exact absurd this (stp_word (hS Y[n] (by rw [e]; exact List.getElem?_eq_getElem hy))).2
      · exact wordR_end (by omega)
    by_cases hx : n < X.length
    · have hxe := List.getElem?_eq_getElem hx
      by_cases ha : (alphaB X[n].toNat || digB X[n].toNat) = true
      · cases f with
        | zero => omega
        | succ f =>
          have e1 : wordR X (f + 1) n = wordR X f (n + 1) := by rw [wordR, hxe]; simp only [ha, if_true]
          have h1 := (wordR_le (l := X) f (n + 1) (by omega)).2
          have hye : Y[n]? = some X[n] := by rw [← hE n (by omega)]; exact hxe
          have hy : n < Y.length := (List.getElem?_eq_some_iff.1 hye).1
          cases g with
          | zero => omega
          | succ g =>
            have e2 : wordR Y (g + 1) n = wordR Y g (n + 1) := by rw [wordR, hye]; simp only [ha, if_true]
            rw [e1] at hE hS
            rw [e1, e2]
            exact ih f (by omega) g (n + 1) (by omega) (by omega) (by omega) hE hS
      · by_cases hs : sepAt X n = true
        · have h3 := sep_len hs
          cases f with
          | zero => omega
          | succ f =>
            have e1 : wordR X (f + 1) n = wordR X f (n + 3) := by rw [wordR, hxe]; simp only [ha, hs, if_true]; simp
            have h1 := (wordR_le (l := X) f (n + 3) (by omega)).2
            obtain ⟨s0, s1, e, s2, s3⟩ := (sep_as X n).1 hs
            have hs2 : sepAt Y n = true := (sep_as Y n).2 ⟨by rw [← hE n (by omega)]; exact s0, by rw [← hE (n + 1) (by omega)]; exact s1, e, by rw [← hE (n + 2) (by omega)]; exact s2, s3⟩
            have hye : Y[n]? = some X[n] := by rw [← hE n (by omega)]; exact hxe
            have h4 := sep_len hs2
            cases g with
            | zero => omega
            | succ g =>
              have e2 : wordR Y (g + 1) n = wordR Y g (n + 3) := by rw [wordR, hye]; simp only [ha, hs2, if_true]; simp
              rw [e1] at hE hS
              rw [e1, e2]
              exact ih f (by omega) g (n + 3) (by omega) (by omega) (by omega) hE hS
        · have e0 := wordR_stop (f := f) hx (by simpa using ha) (by simpa using hs)
          rw [e0]; exact stop e0
    · have e0 : wordR X f n = n := wordR_end (by omega)
      rw [e0]; exact stop e0
theorem cut_get {X K : List UInt8} {m i : Nat} (hm : m ≤ X.length) (hi : i < m) : X[i]? = (X.take m ++ K)[i]? := by
  rw [List.getElem?_append_left (by rw [List.length_take]; omega), List.getElem?_take_of_lt hi]
theorem cut_at {X K : List UInt8} {m : Nat} (hm : m ≤ X.length) : (X.take m ++ K)[m]? = K[0]? := by
  rw [List.getElem?_append_right (by rw [List.length_take]; omega), List.length_take]
  congr 1; omega
theorem wordN_cut {B K : List UInt8} (hK : Stp K) : wordN (B.take (wordN B) ++ K) = wordN B := by
  by_cases hb : 0 < B.length
  · cases ha : alphaB B[0].toNat with
    | false =>
      have e := wordN_no hb ha
      rw [e, List.take_zero, List.nil_append]
      by_cases hk : 0 < K.length
      · have h1 := (stp_word (hK K[0] (List.getElem?_eq_getElem hk))).1
        exact wordN_no hk (by simp only [Bool.or_eq_false_iff] at h1; exact h1.1)
      · have : K = [] := by cases K with | nil => rfl | cons _ _ => simp at hk
        subst this; rfl
    | true =>
      have e := wordN_yes hb ha
      have hle := wordR_le (l := B) B.length 1 hb
      have hm := wordN_le B
      have hl : 0 < (B.take (wordN B) ++ K).length := by rw [List.length_append, List.length_take]; omega
      have h0 : (B.take (wordN B) ++ K)[0] = B[0] := by
        have := cut_get (K := K) hm (i := 0) (by omega)
        rw [List.getElem?_eq_getElem hb, List.getElem?_eq_getElem hl] at this
        injection this with this; exact this.symm
      rw [wordN_yes hl (by rw [h0]; exact ha)]
      have h1 := wordR_cut (X := B) (Y := B.take (wordN B) ++ K) B.length (B.take (wordN B) ++ K).length 1 hb (by omega) (by omega)
        (fun i hi => cut_get hm (by rw [e]; exact hi)) (fun c hc => hK c (by rw [← e, cut_at hm] at hc; exact hc))
      rw [h1, e]
  · have : B = [] := by cases B with | nil => rfl | cons _ _ => simp at hb
    subst this
    show wordN ([] ++ K) = 0
    rw [List.nil_append]
    by_cases hk : 0 < K.length
    · have h1 := (stp_word (hK K[0] (List.getElem?_eq_getElem hk))).1
      exact wordN_no hk (by simp only [Bool.or_eq_false_iff] at h1; exact h1.1)
    · have : K = [] := by cases K with | nil => rfl | cons _ _ => simp at hk
      subst this; rfl
theorem digR_le (l : List UInt8) : ∀ f n, n ≤ l.length → n ≤ digR l f n ∧ digR l f n ≤ l.length
  | 0, n, h => ⟨Nat.le_refl n, h⟩
  | f + 1, n, h => by
    rw [digR]
    by_cases hn : n < l.length
    · rw [List.getElem?_eq_getElem hn]
      simp only
      split
      · have := digR_le l f (n + 1) hn; omega
      · exact ⟨Nat.le_refl _, h⟩
    · rw [List.getElem?_eq_none (by omega)]; exact ⟨Nat.le_refl _, h⟩
theorem digR_cut {X Y : List UInt8} : ∀ f g n, n ≤ X.length → X.length ≤ n + f → Y.length ≤ n + g → (∀ i, i < digR X f n → X[i]? = Y[i]?) →
    (∀ c, Y[digR X f n]? = some c → digB c.toNat = false) → digR Y g n = digR X f n
  | f, g, n, hn, hf, hg, hE, hS => by
    have stop : digR X f n = n → digR Y g n = n := fun e => by
      by_cases hy : n < Y.length
      · exact digR_stop hy (hS Y[n] (by rw [e]; exact List.getElem?_eq_getElem hy))
      · exact digR_end (by omega)
    by_cases hx : n < X.length
    · have hxe := List.getElem?_eq_getElem hx
      by_cases ha : digB X[n].toNat = true
      · match f, hf with
        | 0, hf => omega
        | f + 1, hf =>
          have e1 : digR X (f + 1) n = digR X f (n + 1) := by rw [digR, hxe]; simp only [ha, if_true]
          have h1 := (digR_le X f (n + 1) (by omega)).1
          have hye : Y[n]? = some X[n] := by rw [← hE n (by omega)]; exact hxe
          have hy : n < Y.length := (List.getElem?_eq_some_iff.1 hye).1
          match g, hg with
          | 0, hg => omega
          | g + 1, hg =>
            have e2 : digR Y (g + 1) n = digR Y g (n + 1) := by rw [digR, hye]; simp only [ha, if_true]
            rw [e1] at hE hS
            rw [e1, e2]
            exact digR_cut f g (n + 1) (by omega) (by omega) (by omega) hE hS
      · have e0 := digR_stop (f := f) hx (by simpa using ha)
        rw [e0]; exact stop e0
    · have e0 : digR X f n = n := digR_end (by omega)
      rw [e0]; exact stop e0
theorem digN_cut {B K : List UInt8} (hb : 0 < B.length) (hK : Stp K) : digN (B.take (digN B) ++ K) = digN B ∧ 1 ≤ digN B ∧ digN B ≤ B.length := by
  have hle := digR_le B B.length 1 hb
  refine ⟨?_, hle.1, hle.2⟩
  unfold digN at hle ⊢
  have hl : 1 ≤ (B.take (digR B B.length 1) ++ K).length := by rw [List.length_append, List.length_take]; omega
  refine digR_cut B.length _ 1 hb (by omega) (by omega) (fun i hi => cut_get hle.2 hi) (fun c hc => ?_)
  rw [cut_at hle.2] at hc
  have := (stp_word (hK c hc)).1
  simp only [Bool.or_eq_false_iff] at this; exact this.2
theorem signGo_is (l : List UInt8) : ∀ n, 0 < signGo l n → isSignB (l.take (signGo l n)) = true
  | 0, h => absurd h (by simp [signGo])
  | n + 1, h => by
    rw [signGo] at h ⊢
    by_cases hs : isSignB (l.take (n + 1)) = true
    · rw [if_pos hs]; exact hs
    · rw [if_neg hs] at h ⊢; exact signGo_is l n h
theorem sign_facts : ∀ g ∈ signsL, (32 : UInt8) ∉ g ∧ (36 : UInt8) ∉ g ∧ ((123 : UInt8) ∈ g → g = [123]) ∧ 0 < g.length ∧ g.length ≤ 3 := by decide
theorem sign_mem {g : List UInt8} (h : isSignB g = true) : g ∈ signsL := by unfold isSignB at h; exact List.contains_iff_mem.1 h
theorem signGo_of {S K : List UInt8} (hS : isSignB S = true) (hK : Stp K) : ∀ n, S.length ≤ n → n ≤ (S ++ K).length → signGo (S ++ K) n = S.length
  | 0, h, _ => by have := (sign_facts S (sign_mem hS)).2.2.2.1; omega
  | n + 1, h, hn => by
    have hf := sign_facts S (sign_mem hS)
    rw [signGo]
    by_cases he : S.length = n + 1
    · rw [← he, List.take_left', if_pos hS]; rfl
    · have hlt : S.length ≤ n := by omega
      have hk : 0 < K.length := by rw [List.length_append] at hn; omega
      have hm : K[0] ∈ (S ++ K).take (n + 1) := by
        rw [List.take_append, List.mem_append]
        refine .inr ?_
        rw [List.mem_take_iff_getElem]
        exact ⟨0, by omega, rfl⟩
      have hno : ¬ isSignB ((S ++ K).take (n + 1)) = true := fun hs => by
        have hg := sign_facts _ (sign_mem hs)
        rcases hK K[0] (List.getElem?_eq_getElem hk) with e | e | e <;> rw [e] at hm
        · exact hg.1 hm
        · have := congrArg List.length (hg.2.2.1 hm)
          rw [List.length_take] at this
          simp only [List.length_singleton] at this
          omega
        · exact hg.2.1 hm
      rw [if_neg hno]
      exact signGo_of hS hK n hlt (by omega)
theorem signN_of {S K : List UInt8} (hS : isSignB S = true) (hK : Stp K) : signN (S ++ K) = S.length := by
  have hf := sign_facts S (sign_mem hS)
  unfold signN
  exact signGo_of hS hK _ (by rw [List.length_append]; omega) (Nat.min_le_right _ _)
theorem flag_cut {B K : List UInt8} : ∀ (all : List UInt8) (n : Nat), (∀ c, K[0]? = some c → c ∉ all) → n ≤ B.length →
    n ≤ flagN B 0 all n ∧ flagN B 0 all n ≤ B.length ∧ flagN (B.take (flagN B 0 all n) ++ K) 0 all n = flagN B 0 all n
  | [], n, _, hn => ⟨Nat.le_refl _, hn, rfl⟩
  | a :: all, n, hK, hn => by
    have hK' : ∀ c, K[0]? = some c → c ∉ all := fun c hc => fun hm => hK c hc (List.mem_cons_of_mem _ hm)
    rw [flagN, Nat.zero_add]
    by_cases ha : B[n]? = some a
    · have hl : n < B.length := (List.getElem?_eq_some_iff.1 ha).1
      rw [if_pos ha]
      obtain ⟨i1, i2, i3⟩ := flag_cut (B := B) (K := K) all (n + 1) hK' hl
      refine ⟨by omega, i2, ?_⟩
      rw [flagN, Nat.zero_add, ← cut_get i2 (by omega : n < _), if_pos ha, i3]
    · rw [if_neg ha]
      obtain ⟨i1, i2, i3⟩ := flag_cut (B := B) (K := K) all n hK' hn
      refine ⟨i1, i2, ?_⟩
      have hno : ¬ (B.take (flagN B 0 all n) ++ K)[n]? = some a := by
        by_cases hlt : n < flagN B 0 all n
        · rw [← cut_get i2 hlt]; exact ha
        · have : flagN B 0 all n = n := by omega
          rw [this, cut_at hn]
          exact fun e => hK a e List.mem_cons_self
      rw [flagN, Nat.zero_add, if_neg hno, i3]
end Go.Proofs.YthmopindibdhnaaDoor.G.Bk
namespace Go.Proofs.YthmopindibdhnaaDoor.G.Bk
open Go.RowKit Go.Shelf
/-- a text of single bytes, none of them a backslash, and of backslashes with the byte behind them -/
inductive Pc (P Q : UInt8 → Prop) : List UInt8 → Prop
  | nil : Pc P Q []
  | one {x : UInt8} {t : List UInt8} : x ≠ 92 → P x → Pc P Q t → Pc P Q (x :: t)
  | two {y : UInt8} {t : List UInt8} : Q y → Pc P Q t → Pc P Q (92 :: y :: t)
theorem Pc.mono {P Q P' Q' : UInt8 → Prop} (hp : ∀ x, P x → P' x) (hq : ∀ x, Q x → Q' x) {l : List UInt8} (h : Pc P Q l) : Pc P' Q' l := by
  induction h with
  | nil => exact .nil
  | one h1 h2 _ ih => exact .one h1 (hp _ h2) ih
  | two h1 _ ih => exact .two (hq _ h1) ih
/-- a quote reads such a text up to its end -/
theorem part_pc {o e : UInt8} {K : List UInt8} (he : e ≠ 92) {E : List UInt8} (h : Pc (fun x => x ≠ o ∧ x ≠ e) (fun _ => True) E) : ∀ R : Src, byt R = E ++ e :: K → ∃ R1, partS o e 0 R = some (E, R1) ∧ byt R1 = K := by
  induction h with
  | nil =>
    intro R hR
    rcases R with _ | ⟨x, _ | ⟨y, t⟩⟩
    · simp at hR
    · simp only [byt_cons, byt_nil, List.nil_append, List.cons.injEq] at hR
      exact ⟨[], by rw [partS, if_pos ⟨hR.1, rfl⟩], by rw [← hR.2]; rfl⟩
    · simp only [byt_cons, List.nil_append, List.cons.injEq] at hR
      exact ⟨y :: t, by rw [partS, if_neg (by rw [hR.1]; exact he), if_pos hR.1, if_pos rfl], by rw [← hR.2]; rfl⟩
  | one h1 h2 _ ih =>
    intro R hR
    rcases R with _ | ⟨x, _ | ⟨y, t⟩⟩
    · simp at hR
    · simp at hR
    · have hR1 := hR
      simp only [byt_cons, List.cons_append, List.cons.injEq] at hR1
      obtain ⟨R1, e1, e2⟩ := ih (y :: t) (by rw [byt_cons]; exact hR1.2)
      exact ⟨R1, by rw [partS, if_neg (by rw [hR1.1]; exact h1), if_neg (by rw [hR1.1]; exact h2.2), if_neg (by rw [hR1.1]; exact h2.1), e1, hR1.1]; rfl, e2⟩
  | two _ _ ih =>
    intro R hR
    rcases R with _ | ⟨x, _ | ⟨y, t⟩⟩
    · simp at hR
    · simp at hR
    · have hR1 := hR
      simp only [byt_cons, List.cons_append, List.cons.injEq] at hR1
      obtain ⟨R1, e1, e2⟩ := ih t hR1.2.2
      exact ⟨R1, by rw [partS, if_pos hR1.1, e1, hR1.1, hR1.2.1]; rfl, e2⟩
/-- what a quote reads is such a text; how much it takes; its bytes -/
theorem part_is {o e : UInt8} : ∀ (d : Nat) (R : Src) (raw : List UInt8) (R1 : Src), partS o e d R = some (raw, R1) →
    Pc (fun _ => True) (fun _ => True) raw ∧ raw.length + R1.length + 1 = R.length ∧ (∀ c ∈ raw, c ∈ byt R) ∧ (∀ c ∈ byt R1, c ∈ byt R)
  | d, [], raw, R1, h => by simp [partS] at h
  | d, [x], raw, R1, h => by
    rw [partS] at h
    split at h
    · simp only [Option.some.injEq, Prod.mk.injEq] at h
      obtain ⟨rfl, rfl⟩ := h
      exact ⟨.nil, rfl, by simp, by simp⟩
    · exact nomatch h
  | d, x :: y :: t, raw, R1, h => by
    rw [partS] at h
    by_cases h1 : x.2 = 92
    · rw [if_pos h1] at h
      cases e1 : partS o e d t with
      | none => rw [e1] at h; exact nomatch h
      | some r =>
        rw [e1] at h
        simp only [Option.map_some, Option.some.injEq, Prod.mk.injEq] at h
        obtain ⟨rfl, rfl⟩ := h
        obtain ⟨i1, i2, i3, i4⟩ := part_is d t r.1 r.2 e1
        refine ⟨by rw [h1]; exact .two trivial i1, by simp only [List.length_cons]; omega, fun c hc => ?_, fun c hc => ?_⟩
        · simp only [byt_cons, List.mem_cons] at hc ⊢
          rcases hc with hc | hc | hc
          · exact .inl hc
          · exact .inr (.inl hc)
          · exact .inr (.inr (i3 c hc))
        · simp only [byt_cons, List.mem_cons]; exact .inr (.inr (i4 c hc))
    · rw [if_neg h1] at h
      have rec1 : ∀ d', (partS o e d' (y :: t)).map (fun r => (x.2 :: r.1, r.2)) = some (raw, R1) → Pc (fun _ => True) (fun _ => True) raw ∧ raw.length + R1.length + 1 = (x :: y :: t).length ∧ (∀ c ∈ raw, c ∈ byt (x :: y :: t)) ∧ (∀ c ∈ byt R1, c ∈ byt (x :: y :: t)) := fun d' h => by
        cases e1 : partS o e d' (y :: t) with
        | none => rw [e1] at h; exact nomatch h
        | some r =>
          rw [e1] at h
          simp only [Option.map_some, Option.some.injEq, Prod.mk.injEq] at h
          obtain ⟨rfl, rfl⟩ := h
          obtain ⟨i1, i2, i3, i4⟩ := part_is d' (y :: t) r.1 r.2 e1
          refine ⟨.one h1 trivial i1, by simp only [List.length_cons] at i2 ⊢; omega, fun c hc => ?_, fun c hc => ?_⟩
          · rw [byt_cons x, List.mem_cons]
            rw [List.mem_cons] at hc
            exact hc.imp id (i3 c)
          · rw [byt_cons x, List.mem_cons]; exact .inr (i4 c hc)
      by_cases h2 : x.2 = e
      · rw [if_pos h2] at h
        by_cases h3 : d = 0
        · rw [if_pos h3] at h
          simp only [Option.some.injEq, Prod.mk.injEq] at h
          obtain ⟨rfl, rfl⟩ := h
          exact ⟨.nil, by simp, by simp, fun c hc => by rw [byt_cons x, List.mem_cons]; exact .inr hc⟩
        · rw [if_neg h3] at h; exact rec1 _ h
      · rw [if_neg h2] at h
        by_cases h4 : x.2 = o
        · rw [if_pos h4] at h; exact rec1 _ h
        · rw [if_neg h4] at h; exact rec1 _ h
theorem escG_nil (z : List UInt8) : escG z [] = [] := rfl
theorem escG_cons (z : List UInt8) (c : UInt8) (t : List UInt8) : escG z (c :: t) = escGC z c ++ escG z t := by simp [escG]
theorem esc_mem {z l : List UInt8} {c : UInt8} (h : c ∈ escG z l) : c ∈ l ∨ c = 92 := by
  induction l with
  | nil => simp [escG] at h
  | cons x t ih =>
    rw [escG_cons, List.mem_append] at h
    rcases h with h | h
    · unfold escGC at h
      split at h
      · simp only [List.mem_cons, List.not_mem_nil, or_false] at h
        rcases h with h | h
        · exact .inr h
        · exact .inl (by rw [h]; exact List.mem_cons_self)
      · simp only [List.mem_cons, List.not_mem_nil, or_false] at h
        exact .inl (by rw [h]; exact List.mem_cons_self)
    · exact (ih h).imp (List.mem_cons_of_mem _) id
theorem esc_len (z l : List UInt8) : (escG z l).length ≤ 2 * l.length := by
  induction l with
  | nil => simp [escG]
  | cons x t ih =>
    rw [escG_cons, List.length_append, List.length_cons]
    have : (escGC z x).length ≤ 2 := by unfold escGC; split <;> simp
    omega
/-- a text with a backslash before each backslash and some others -/
theorem esc_pc {z : List UInt8} (hz : z.contains 92 = true) : ∀ l, Pc (fun x => z.contains x = false) (fun _ => True) (escG z l)
  | [] => .nil
  | c :: t => by
    rw [escG_cons]
    unfold escGC
    by_cases h : z.contains c = true
    · rw [if_pos h]; exact .two trivial (esc_pc hz t)
    · rw [if_neg h]
      exact .one (fun e => h (by rw [e]; exact hz)) (by simpa using h) (esc_pc hz t)
theorem plR_one' {o q x : UInt8} (h : x ≠ 92) (t : List UInt8) : plR o q (x :: t) = x :: plR o q t := by
  cases t with
  | nil => rfl
  | cons y t => rw [plR, if_neg (fun e => h e.1)]
theorem plR_esc {o q : UInt8} {z : List UInt8} (hz : ∀ c, z.contains c = true ↔ (c = 92 ∨ c = o ∨ c = q)) : ∀ l, plR o q (escG z l) = l
  | [] => rfl
  | c :: t => by
    rw [escG_cons]
    unfold escGC
    by_cases h : z.contains c = true
    · rw [if_pos h]
      show plR o q (92 :: c :: escG z t) = c :: t
      rw [plR, if_pos ⟨rfl, (hz c).1 h⟩, plR_esc hz t]
    · rw [if_neg h]
      show plR o q (c :: escG z t) = c :: t
      rw [plR_one' (fun e => h ((hz c).2 (.inl e))), plR_esc hz t]
theorem plR_mem {o q : UInt8} : ∀ (l : List UInt8) (c : UInt8), c ∈ plR o q l → c ∈ l
  | [], _, h => h
  | [x], _, h => h
  | x :: y :: t, c, h => by
    rw [plR] at h
    split at h
    · rw [List.mem_cons] at h
      rcases h with h | h
      · subst h; simp
      · have := plR_mem t c h; simp [this]
    · rw [List.mem_cons] at h
      rcases h with h | h
      · subst h; simp
      · exact List.mem_cons_of_mem _ (plR_mem (y :: t) c h)
theorem patR_one' {x : UInt8} (h : x ≠ 92) (t : List UInt8) : patR (x :: t) = x :: patR t := by
  cases t with
  | nil => rfl
  | cons y t => rw [patR, if_neg h]
theorem patR_two' (y : UInt8) (t : List UInt8) : patR (92 :: y :: t) = if y = 47 then y :: patR t else 92 :: y :: patR t := by rw [patR, if_pos rfl]
theorem patR_pc {raw : List UInt8} (h : Pc (fun _ => True) (fun _ => True) raw) : Pc (fun _ => True) (fun y => y ≠ 47) (patR raw) := by
  induction h with
  | nil => exact .nil
  | one h1 _ _ ih => rw [patR_one' h1]; exact .one h1 trivial ih
  | @two y t _ _ ih =>
    rw [patR_two']
    by_cases hy : y = 47
    · rw [if_pos hy]; exact .one (by rw [hy]; decide) trivial ih
    · rw [if_neg hy]; exact .two hy ih
theorem c47 (y : UInt8) : ([47] : List UInt8).contains y = true ↔ y = 47 := by simp
theorem esc47_is {y : UInt8} (h : y = 47) : escGC [47] y = [92, 47] := by subst h; rfl
theorem esc47_no {y : UInt8} (h : y ≠ 47) : escGC [47] y = [y] := by unfold escGC; rw [if_neg (by rw [c47]; exact h)]
/-- a pattern's text is read back -/
theorem patR_back {P : UInt8 → Prop} {T : List UInt8} (h : Pc P (fun y => y ≠ 47) T) : patR (escG [47] T) = T ∧ Pc (fun x => P x ∧ x ≠ 47) (fun _ => True) (escG [47] T) := by
  induction h with
  | nil => exact ⟨rfl, .nil⟩
  | @one x t h1 h2 _ ih =>
    rw [escG_cons]
    by_cases hx : x = 47
    · rw [esc47_is hx]
      show patR (92 :: 47 :: escG [47] t) = _ ∧ Pc _ _ (92 :: 47 :: escG [47] t)
      rw [patR_two', if_pos rfl, ih.1, hx]
      exact ⟨rfl, .two trivial ih.2⟩
    · rw [esc47_no hx]
      show patR (x :: escG [47] t) = _ ∧ Pc _ _ (x :: escG [47] t)
      rw [patR_one' h1, ih.1]
      exact ⟨rfl, .one h1 ⟨h2, hx⟩ ih.2⟩
  | @two y t h1 _ ih =>
    rw [escG_cons, escG_cons, esc47_no (show (92 : UInt8) ≠ 47 by decide), esc47_no h1]
    show patR (92 :: y :: escG [47] t) = _ ∧ Pc _ _ (92 :: y :: escG [47] t)
    rw [patR_two', if_neg h1, ih.1]
    exact ⟨rfl, .two trivial ih.2⟩
theorem patR_mem : ∀ (l : List UInt8) (c : UInt8), c ∈ patR l → c ∈ l
  | [], _, h => h
  | [x], _, h => h
  | x :: y :: t, c, h => by
    rw [patR] at h
    split at h
    · split at h
      · rw [List.mem_cons] at h
        rcases h with h | h
        · subst h; simp
        · have := patR_mem t c h; simp [this]
      · simp only [List.mem_cons] at h
        rcases h with h | h | h
        · subst h; simp
        · subst h; simp
        · have := patR_mem t c h; simp [this]
    · rw [List.mem_cons] at h
      rcases h with h | h
      · subst h; simp
      · exact List.mem_cons_of_mem _ (patR_mem (y :: t) c h)
theorem inR_one' {o q x : UInt8} {sl : Bool} (h : x ≠ 92) (h2 : x ≠ 34) (t : List UInt8) : inR o q sl (x :: t) = x :: inR o q sl t := by
  cases t with
  | nil => rw [inR_1, if_neg h2]; rfl
  | cons y t => rw [inR, if_neg h, if_neg h2]
theorem inR_quo' {o q : UInt8} {sl : Bool} (t : List UInt8) : inR o q sl (34 :: t) = 92 :: 34 :: inR o q sl t := by
  cases t with
  | nil => rw [inR_1, if_pos rfl]; rfl
  | cons y t => rw [inR, if_neg (by decide), if_pos rfl]
theorem inR_two' {o q : UInt8} {sl : Bool} (y : UInt8) (t : List UInt8) : inR o q sl (92 :: y :: t) = if goesB o q sl y = true then y :: inR o q sl t else 92 :: y :: inR o q sl t := by rw [inR, if_pos rfl]
theorem goes_no {o q : UInt8} {sl : Bool} {y : UInt8} (h : goesB o q sl y = true) : y ≠ 92 ∧ y ≠ 34 := by
  unfold goesB at h
  constructor
  · rintro rfl
    cases sl <;> simp at h
  · rintro rfl
    cases sl <;> simp at h
theorem inR_pc {o q : UInt8} {sl : Bool} {raw : List UInt8} (h : Pc (fun _ => True) (fun _ => True) raw) : Pc (fun x => x ≠ 34) (fun y => sl = true → y ≠ 47) (inR o q sl raw) := by
  induction h with
  | nil => exact .nil
  | @one x t h1 _ _ ih =>
    by_cases hx : x = 34
    · subst hx; rw [inR_quo']; exact .two (fun _ => by decide) ih
    · rw [inR_one' h1 hx]; exact .one h1 hx ih
  | @two y t _ _ ih =>
    rw [inR_two']
    by_cases hg : goesB o q sl y = true
    · rw [if_pos hg]; exact .one (goes_no hg).1 (goes_no hg).2 ih
    · rw [if_neg hg]
      refine .two (fun hs e => hg ?_) ih
      subst hs e; unfold goesB; simp
/-- a text with interpolation stays as it is between its quotes -/
theorem inR_back {Q : UInt8 → Prop} {T : List UInt8} (h : Pc (fun x => x ≠ 34) Q T) : inR 34 34 false T = T := by
  induction h with
  | nil => rfl
  | one h1 h2 _ ih => rw [inR_one' h1 h2, ih]
  | @two y t _ _ ih =>
    have : goesB 34 34 false y = false := by unfold goesB; cases h : (y == 34) <;> simp
    rw [inR_two', if_neg (by rw [this]; decide), ih]
/-- so does a replacement with its slashes -/
theorem inR_back47 {T : List UInt8} (h : Pc (fun x => x ≠ 34) (fun y => y ≠ 47) T) : inR 47 47 true (escG [47] T) = T := by
  induction h with
  | nil => rfl
  | @one x t h1 h2 _ ih =>
    rw [escG_cons]
    by_cases hx : x = 47
    · rw [esc47_is hx]
      show inR 47 47 true (92 :: 47 :: escG [47] t) = _
      rw [inR_two', if_pos (by decide), ih, hx]
    · rw [esc47_no hx]
      show inR 47 47 true (x :: escG [47] t) = _
      rw [inR_one' h1 h2, ih]
  | @two y t h1 _ ih =>
    rw [escG_cons, escG_cons, esc47_no (show (92 : UInt8) ≠ 47 by decide), esc47_no h1]
    show inR 47 47 true (92 :: y :: escG [47] t) = _
    have : goesB 47 47 true y = false := by unfold goesB; have : (y == 47) = false := by simpa using h1
                                            rw [this]; simp
    rw [inR_two', if_neg (by rw [this]; decide), ih]
theorem inR_mem {o q : UInt8} {sl : Bool} : ∀ (l : List UInt8) (c : UInt8), c ∈ inR o q sl l → c ∈ l ∨ c = 92
  | [], _, h => .inl h
  | [x], c, h => by
    rw [inR_1] at h
    split at h
    · rename_i hx
      simp only [List.mem_cons, List.not_mem_nil, or_false] at h
      rcases h with h | h
      · exact .inr h
      · exact .inl (by rw [h, hx]; simp)
    · exact .inl h
  | x :: y :: t, c, h => by
    rw [inR] at h
    split at h
    · have ht : c ∈ inR o q sl t → c ∈ x :: y :: t ∨ c = 92 := fun h => (inR_mem t c h).imp (fun h => by simp [h]) id
      split at h
      · rw [List.mem_cons] at h
        rcases h with h | h
        · subst h; exact .inl (by simp)
        · exact ht h
      · simp only [List.mem_cons] at h
        rcases h with h | h | h
        · exact .inr h
        · subst h; exact .inl (by simp)
        · exact ht h
    · have ht : c ∈ inR o q sl (y :: t) → c ∈ x :: y :: t ∨ c = 92 := fun h => (inR_mem (y :: t) c h).imp (fun h => List.mem_cons_of_mem _ h) id
      split at h
      · rename_i hx
        simp only [List.mem_cons] at h
        rcases h with h | h | h
        · exact .inr h
        · exact .inl (by rw [h, hx]; simp)
        · exact ht h
      · rw [List.mem_cons] at h
        rcases h with h | h
        · subst h; exact .inl (by simp)
        · exact ht h
/-- a replacement with its slashes takes at most twice as many bytes as what was read -/
theorem sub_len {o q : UInt8} : ∀ l : List UInt8, (escG [47] (inR o q true l)).length ≤ 2 * l.length
  | [] => Nat.le_refl _
  | [x] => by
    rw [inR_1]
    by_cases hx : x = 34
    · rw [if_pos hx, show escG [47] [92, 34] = [92, 34] from by decide]; exact Nat.le_refl 2
    · rw [if_neg hx]; exact esc_len _ _
  | x :: y :: t => by
    have h1 := sub_len (o := o) (q := q) t
    have h2 := sub_len (o := o) (q := q) (y :: t)
    have hc : ∀ c, (escGC [47] c).length ≤ 2 := fun c => by unfold escGC; split <;> simp
    rw [inR]
    by_cases hx : x = 92
    · rw [if_pos hx]
      by_cases hg : goesB o q true y = true
      · rw [if_pos hg, escG_cons, List.length_append]
        have := hc y
        simp only [List.length_cons]; omega
      · rw [if_neg hg, escG_cons, escG_cons, List.length_append, List.length_append]
        have := hc y
        have := hc 92
        simp only [List.length_cons]; omega
    · rw [if_neg hx]
      by_cases h34 : x = 34
      · rw [if_pos h34, escG_cons, escG_cons, List.length_append, List.length_append, esc47_no (show (92 : UInt8) ≠ 47 by decide), esc47_no (show (34 : UInt8) ≠ 47 by decide)]
        simp only [List.length_cons, List.length_nil] at h2 ⊢; omega
      · rw [if_neg h34, escG_cons, List.length_append]
        have := hc x
        simp only [List.length_cons] at h2 ⊢; omega
/-- a text that ends with no backslash is of single bytes and pairs -/
theorem pc_last : ∀ l : List UInt8, l.getLast? ≠ some 92 → Pc (fun _ => True) (fun _ => True) l
  | [], _ => .nil
  | [x], h => .one (fun e => h (by rw [e]; rfl)) trivial .nil
  | x :: y :: t, h => by
    by_cases hx : x = 92
    · subst hx
      cases t with
      | nil => exact .two trivial .nil
      | cons z t => exact .two trivial (pc_last (z :: t) (by rw [List.getLast?_cons_cons, List.getLast?_cons_cons] at h; exact h))
    · exact .one hx trivial (pc_last (y :: t) (by rw [List.getLast?_cons_cons] at h; exact h))
/-- the words of words -/
theorem woR_app : ∀ (x y a : List UInt8) (pb : Bool), woR a pb (x ++ y) = woR (woR a pb x) (match x.getLast? with | none => pb | some c => blkB c.toNat) y
  | [], y, a, pb => rfl
  | [c], y, a, pb => by
    show woR a pb (c :: y) = woR (woR a pb [c]) (blkB c.toNat) y
    rw [woR, woR]
    by_cases hb : blkB c.toNat = true
    · rw [if_pos hb, if_pos hb, hb]; rfl
    · rw [if_neg hb, if_neg hb]
      have : blkB c.toNat = false := by simpa using hb
      rw [this]; rfl
  | c :: d :: x, y, a, pb => by
    have e : (c :: d :: x).getLast? = (d :: x).getLast? := List.getLast?_cons_cons
    rw [e]
    show woR a pb (c :: (d :: x ++ y)) = _
    have e2 : woR a pb (c :: d :: x) = if blkB c.toNat = true then woR a true (d :: x) else woR ((if a ≠ [] ∧ pb = true then a ++ [32] else a) ++ [c]) false (d :: x) := by rw [woR]
    rw [woR, e2]
    by_cases hb : blkB c.toNat = true
    · rw [if_pos hb, if_pos hb, woR_app (d :: x) y]
      cases h : (d :: x).getLast? with
      | none => simp at h
      | some z => rfl
    · rw [if_neg hb, if_neg hb, woR_app (d :: x) y]
      cases h : (d :: x).getLast? with
      | none => simp at h
      | some z => rfl
def NW (a : List UInt8) : Prop := a = [] ∨ (woR [] false a = a ∧ ∃ c, a.getLast? = some c ∧ blkB c.toNat = false)
theorem NW.idem {a : List UInt8} (h : NW a) : woR [] false a = a := by
  rcases h with rfl | h
  · rfl
  · exact h.1
theorem nw_on {a : List UInt8} {c : UInt8} (h : NW a) (hc : blkB c.toNat = false) : NW (a ++ [c]) := by
  refine .inr ⟨?_, c, by simp, hc⟩
  rw [woR_app, h.idem]
  rcases h with rfl | ⟨_, z, hz, hb⟩
  · show woR [] false [c] = _
    rw [woR, if_neg (by rw [hc]; decide)]; rfl
  · rw [hz]
    show woR a (blkB z.toNat) [c] = _
    rw [hb, woR, if_neg (by rw [hc]; decide), if_neg (fun e => absurd e.2 (by decide))]; rfl
theorem nw_sep {a : List UInt8} {c : UInt8} (h : NW a) (ha : a ≠ []) (hc : blkB c.toNat = false) : NW (a ++ [32] ++ [c]) := by
  refine .inr ⟨?_, c, by simp, hc⟩
  rw [List.append_assoc, woR_app, h.idem]
  rcases h with rfl | ⟨_, z, hz, hb⟩
  · exact absurd rfl ha
  · rw [hz]
    show woR a (blkB z.toNat) [32, c] = _
    rw [hb, woR, if_pos (by decide), woR, if_neg (by rw [hc]; decide), if_pos ⟨ha, rfl⟩]
    rw [List.append_assoc]; rfl
theorem nw_wo : ∀ (l a : List UInt8) (pb : Bool), NW a → NW (woR a pb l)
  | [], a, pb, h => h
  | c :: t, a, pb, h => by
    rw [woR]
    by_cases hb : blkB c.toNat = true
    · rw [if_pos hb]; exact nw_wo t a true h
    · rw [if_neg hb]
      have hc : blkB c.toNat = false := by simpa using hb
      refine nw_wo t _ false ?_
      by_cases ha : a ≠ [] ∧ pb = true
      · rw [if_pos ha]; exact nw_sep h ha.1 hc
      · rw [if_neg ha]; exact nw_on h hc
theorem words_idem (l : List UInt8) : wordsR (wordsR l) = wordsR l := (nw_wo l [] false (.inl rfl)).idem
theorem wo_len : ∀ (l a : List UInt8) (pb : Bool), (woR a pb l).length ≤ a.length + l.length + (if pb = true ∧ a ≠ [] then 1 else 0)
  | [], a, pb => by rw [woR]; simp
  | c :: t, a, pb => by
    rw [woR]
    by_cases hb : blkB c.toNat = true
    · rw [if_pos hb]
      have := wo_len t a true
      simp only [List.length_cons]
      split at this <;> split <;> simp_all <;> omega
    · rw [if_neg hb]
      have := wo_len t ((if a ≠ [] ∧ pb = true then a ++ [32] else a) ++ [c]) false
      simp only [List.length_append, List.length_cons, List.length_nil, Bool.false_eq_true, false_and, if_false] at this ⊢
      by_cases ha : a ≠ [] ∧ pb = true
      · rw [if_pos ha] at this
        rw [if_pos ha, if_pos ⟨ha.2, ha.1⟩]
        simp only [List.length_append, List.length_cons, List.length_nil] at this
        omega
      · rw [if_neg ha] at this ⊢
        omega
theorem words_len (l : List UInt8) : (wordsR l).length ≤ l.length := by
  have := wo_len l [] false
  simpa [wordsR] using this
theorem wo_mem : ∀ (l a : List UInt8) (pb : Bool) (c : UInt8), c ∈ woR a pb l → c ∈ a ∨ c ∈ l ∨ c = 32
  | [], a, pb, c, h => .inl h
  | x :: t, a, pb, c, h => by
    rw [woR] at h
    split at h
    · rcases wo_mem t a true c h with h | h | h
      · exact .inl h
      · exact .inr (.inl (List.mem_cons_of_mem _ h))
      · exact .inr (.inr h)
    · rcases wo_mem t _ false c h with h | h | h
      · rw [List.mem_append] at h
        rcases h with h | h
        · split at h
          · rw [List.mem_append] at h
            rcases h with h | h
            · exact .inl h
            · exact .inr (.inr (by simpa using h))
          · exact .inl h
        · exact .inr (.inl (by rw [List.mem_singleton] at h; rw [h]; exact List.mem_cons_self))
      · exact .inr (.inl (List.mem_cons_of_mem _ h))
      · exact .inr (.inr h)
end Go.Proofs.YthmopindibdhnaaDoor.G.Bk
