/- LBeh GCm LWordR GLine -/
import Derived.Test.YthmopindibdhnaaGreatDoorM04
import Derived.Test.YthmopindibdhnaaGreatDoorM02
namespace Go.Proofs.YthmopindibdhnaaGreatDoor
open Go.RowKit Go.Shelf
def takesL : List (List UInt8) := [[114, 101, 116, 117, 114, 110], [97, 110, 100], [111, 114], [110, 111, 116], [120], [108, 116], [103, 116], [108, 101], [103, 101], [101, 113], [110, 101], [99, 109, 112], [105, 102], [117, 110, 108, 101, 115, 115], [101, 108, 115, 105, 102], [101, 108, 115, 101], [119, 104, 105, 108, 101], [117, 110, 116, 105, 108], [102, 111, 114], [100, 111], [101, 118, 97, 108], [115, 117, 98], [109, 97, 112], [103, 114, 101, 112], [115, 111, 114, 116], [109, 121], [111, 117, 114], [108, 111, 99, 97, 108]]
def takesB (l : List UInt8) : Bool := takesL.contains l
set_option maxRecDepth 100000 in
set_option maxHeartbeats 2000000 in
theorem takes_p (s : ByteArray) (w : World) : Calls Tryz.prog 66 #[.string s] w fun e w' => e = .returned (.bool (takesB s.data.toList)) ∧ w = w' := by
  obtain ⟨R, hR⟩ : ∃ R, R = takesB s.data.toList := ⟨_, rfl⟩
  have HR : Hid (R = (s.toList == [114, 101, 116, 117, 114, 110] || s.toList == [97, 110, 100] || s.toList == [111, 114] || s.toList == [110, 111, 116] || s.toList == [120] || s.toList == [108, 116] || s.toList == [103, 116] || s.toList == [108, 101] || s.toList == [103, 101] || s.toList == [101, 113] || s.toList == [110, 101] || s.toList == [99, 109, 112] || s.toList == [105, 102] || s.toList == [117, 110, 108, 101, 115, 115] || s.toList == [101, 108, 115, 105, 102] || s.toList == [101, 108, 115, 101] || s.toList == [119, 104, 105, 108, 101] || s.toList == [117, 110, 116, 105, 108] || s.toList == [102, 111, 114] || s.toList == [100, 111] || s.toList == [101, 118, 97, 108] || s.toList == [115, 117, 98] || s.toList == [109, 97, 112] || s.toList == [103, 114, 101, 112] || s.toList == [115, 111, 114, 116] || s.toList == [109, 121] || s.toList == [111, 117, 114] || s.toList == [108, 111, 99, 97, 108])) := Lib.hid (by
    rw [hR, ByteArray.toList_eq]
    simp only [takesB, takesL, List.contains_cons, List.contains_nil, Bool.or_false, Bool.or_assoc])
  rw [← hR]
  clear hR
  go_enter Tryz.func66, Tryz.ntmps66
  go_wp2
  all_goals
    go_ret
    refine ⟨?_, rfl⟩
    rw [HR.out]
    first
      | (simp [*]; done)
      | simp_all
def behindSignB (l : List UInt8) (opn : Int) (before : Bool) : Bool :=
  if l == [41] || l == [93] then false else if l == [125] then (opn != 2 && opn != 3) else if l == [43, 43] || l == [45, 45] then before else true
set_option maxRecDepth 100000 in
set_option maxHeartbeats 2000000 in
theorem behindSign_p (k p : Int) (s r m : ByteArray) (o : Int) (b : Bool) (w : World) : Calls Tryz.prog 67 #[.agg #[.int .i64 k, .int .i64 p, .string s, .string r, .string m, .int .i64 o], .bool b] w fun e w' => e = .returned (.bool (behindSignB s.data.toList o b)) ∧ Gr w w' := by
  obtain ⟨R, hR⟩ : ∃ R, R = behindSignB s.data.toList o b := ⟨_, rfl⟩
  have HR : Hid (R = if (s.toList == [41] || s.toList == [93]) = true then false else if (s.toList == [125]) = true then (o != 2 && o != 3) else if (s.toList == [43, 43] || s.toList == [45, 45]) = true then b else true) := Lib.hid (by rw [hR, ByteArray.toList_eq]; rfl)
  rw [← hR]
  clear hR
  by_cases h2 : o = 2
  · have t2 : (o == 2) = true := by simpa using h2
    clear h2
    go_enter Tryz.func67, Tryz.ntmps67
    go_wp2
    all_goals
      go_ret
      refine ⟨?_, (Gr.refl w).alloc _⟩
      rw [HR.out]
      first
        | (simp [*]; done)
        | simp_all
  · have t2 : (o == 2) = false := by simpa using h2
    clear h2
    go_enter Tryz.func67, Tryz.ntmps67
    go_wp2
    all_goals
      go_ret
      refine ⟨?_, (Gr.refl w).alloc _⟩
      rw [HR.out]
      first
        | (simp [*]; done)
        | simp_all
def behindB (k : Int) (l : List UInt8) (o : Int) (b : Bool) : Bool := if k = 0 then takesB l else if k = 3 then behindSignB l o b else !(decide (1 ≤ k) && decide (k ≤ 9))
set_option maxRecDepth 100000 in
set_option maxHeartbeats 1000000 in
theorem behind_p (k p : Int) (s r m : ByteArray) (o : Int) (b : Bool) (w : World) : Calls Tryz.prog 44 #[.agg #[.int .i64 k, .int .i64 p, .string s, .string r, .string m, .int .i64 o], .bool b] w fun e w' => e = .returned (.bool (behindB k s.data.toList o b)) ∧ Gr w w' := by
  have HT := Lib.hid (fun w => takes_p s w)
  have HS := Lib.hid (fun w => behindSign_p k p s r m o b w)
  have G := Lib.hid ((Gr.refl w).alloc (.cells #[.int .i64 k, .int .i64 p, .string s, .string r, .string m, .int .i64 o] 42))
  by_cases h0 : k = 0
  · have e0 : behindB k s.data.toList o b = takesB s.data.toList := if_pos h0
    have t0 : (k == 0) = true := by simpa using h0
    rw [e0]; clear e0 h0 HS
    go_enter Tryz.func44, Tryz.ntmps44
    go_wp2_with fail
    refine (HT.out _).mono ?_
    rintro e w2 ⟨rfl, rfl⟩
    go_wp2
    go_ret
    exact ⟨rfl, G.out⟩
  · have t0 : (k == 0) = false := by simpa using h0
    by_cases h3 : k = 3
    · have e0 : behindB k s.data.toList o b = behindSignB s.data.toList o b := by unfold behindB; rw [if_neg h0, if_pos h3]
      have t3 : (k == 3) = true := by simpa using h3
      rw [e0]; clear e0 h0 h3 HT
      go_enter Tryz.func44, Tryz.ntmps44
      go_wp2_with fail
      refine (HS.out _).mono ?_
      rintro e w2 ⟨rfl, g2⟩
      go_wp2
      go_ret
      exact ⟨rfl, Gr.trans G.out g2⟩
    · have e0 : behindB k s.data.toList o b = !(decide (1 ≤ k) && decide (k ≤ 9)) := by unfold behindB; rw [if_neg h0, if_neg h3]
      have t3 : (k == 3) = false := by simpa using h3
      by_cases hin : k = 1 ∨ k = 2 ∨ k = 4 ∨ k = 5 ∨ k = 6 ∨ k = 7 ∨ k = 8 ∨ k = 9
      · rw [e0]; clear e0 h0 h3 HT HS t0 t3
        rcases hin with rfl | rfl | rfl | rfl | rfl | rfl | rfl | rfl
        all_goals
          rw [show (!(decide ((1 : Int) ≤ _) && decide (_ ≤ (9 : Int)))) = false from by decide]
          go_enter Tryz.func44, Tryz.ntmps44
          go_wp2
          go_ret
          exact ⟨rfl, G.out⟩
      · have e1 : (!(decide (1 ≤ k) && decide (k ≤ 9))) = true := by simp; omega
        have u1 : (k == 1) = false := by simp; omega
        have u2 : (k == 2) = false := by simp; omega
        have u4 : (k == 4) = false := by simp; omega
        have u5 : (k == 5) = false := by simp; omega
        have u6 : (k == 6) = false := by simp; omega
        have u7 : (k == 7) = false := by simp; omega
        have u8 : (k == 8) = false := by simp; omega
        have u9 : (k == 9) = false := by simp; omega
        rw [e0, e1]; clear e0 e1 h0 h3 hin HT HS
        go_enter Tryz.func44, Tryz.ntmps44
        go_wp2
        go_ret
        exact ⟨rfl, G.out⟩
set_option maxRecDepth 100000 in
theorem brace_no {P : Nat} (s : ByteArray) (d : Bool) (h1 : s.data.toList ≠ [123]) (h2 : s.data.toList ≠ [125]) (w : World) : Calls Tryz.prog 83 #[.pointer (some ⟨P, 0, none⟩), .string s, .bool d] w fun e w' => e = .returned (.int .i64 0) ∧ w = w' := by
  have t1 : (s.toList == [123]) = false := by rw [ByteArray.toList_eq]; simpa using h1
  have t2 : (s.toList == [125]) = false := by rw [ByteArray.toList_eq]; simpa using h2
  clear h1 h2
  go_enter Tryz.func83, Tryz.ntmps83
  go_wp2
  go_ret
  exact ⟨rfl, rfl⟩
end Go.Proofs.YthmopindibdhnaaGreatDoor
namespace Go.Proofs.YthmopindibdhnaaGreatDoor.G
open Go.RowKit Go.Shelf
abbrev Src := List (Nat × UInt8)
def byt (R : Src) : List UInt8 := R.map Prod.snd
@[simp] theorem byt_nil : byt [] = [] := rfl
@[simp] theorem byt_cons (x : Nat × UInt8) (t : Src) : byt (x :: t) = x.2 :: byt t := rfl
@[simp] theorem byt_app (a b : Src) : byt (a ++ b) = byt a ++ byt b := by simp [byt]
@[simp] theorem byt_len (R : Src) : (byt R).length = R.length := by simp [byt]
theorem byt_drop (R : Src) (n : Nat) : byt (R.drop n) = (byt R).drop n := by simp [byt, List.map_drop]
theorem byt_take (R : Src) (n : Nat) : byt (R.take n) = (byt R).take n := by simp [byt, List.map_take]
def place : Src → Nat
  | [] => 0
  | x :: _ => x.1
/-- blanks and comments are skipped; true: within a comment -/
def skipS : Bool → Src → Src
  | _, [] => []
  | true, x :: t => if x.2 = 10 then skipS false t else skipS true t
  | false, x :: t => if blkB x.2.toNat = true then skipS false t else if x.2 = 35 then skipS true t else x :: t
/-- a token as it was read: its kind, its place, how its text comes of what was read (0 as it is, 1 without interpolation, 2 with it, 3 words, 4 a pattern, 5 a replacement, 6 a transliteration, 7 the lines of a heredoc with interpolation), its parts, flags, delimiters, and what a brace is -/
structure RTok where
  kind : Nat
  place : Nat
  form : Nat
  raw : List UInt8
  raw2 : List UInt8
  more : List UInt8
  o : UInt8
  o2 : UInt8
  opn : Nat
def partU (o : UInt8) : UInt8 := (partI o.toNat).toNat.toUInt8
/-- what stands in a quote, d pairs deep, and what is behind it -/
def partS (o e : UInt8) : Nat → Src → Option (List UInt8 × Src)
  | _, [] => none
  | d, [x] => if x.2 = e ∧ d = 0 then some ([], []) else none
  | d, x :: y :: t =>
    if x.2 = 92 then (partS o e d t).map fun r => (x.2 :: y.2 :: r.1, r.2)
    else if x.2 = e then (if d = 0 then some ([], y :: t) else (partS o e (d - 1) (y :: t)).map fun r => (x.2 :: r.1, r.2))
    else if x.2 = o then (partS o e (d + 1) (y :: t)).map fun r => (x.2 :: r.1, r.2)
    else (partS o e d (y :: t)).map fun r => (x.2 :: r.1, r.2)
def blkS : Src → Src
  | [] => []
  | x :: t => if blkB x.2.toNat = true then blkS t else x :: t
def secondT : Src → Option (UInt8 × List UInt8 × Src)
  | [] => none
  | x :: t => if delimB x.2.toNat = true then (partS x.2 (partU x.2) 0 t).map fun r => (x.2, r.1, r.2) else none
def secondS (o : UInt8) (R : Src) : Option (UInt8 × List UInt8 × Src) :=
  if partU o = o then (partS o o 0 R).map fun r => (o, r.1, r.2) else secondT (blkS R)
def flagsP : List UInt8 := [105, 109, 115, 120, 103]
def flagsT : List UInt8 := [99, 100, 114]
def flagS (R : Src) (all : List UInt8) : Nat := flagN (byt R) 0 all 0
/-- a quote of a kind from its delimiter on -/
def quoteS (pl : Nat) (k : Int) : Src → Option (RTok × Src)
  | [] => none
  | x :: R => match partS x.2 (partU x.2) 0 R with
    | none => none
    | some (raw, R1) =>
      if k = 4 then some (⟨4, pl, 1, raw, [], [], x.2, 0, 0⟩, R1)
      else if k = 5 then some (⟨5, pl, 2, raw, [], [], x.2, 0, 0⟩, R1)
      else if k = 6 then some (⟨6, pl, 3, raw, [], [], x.2, 0, 0⟩, R1)
      else if k = 7 then some (⟨7, pl, 4, raw, [], (byt R1).take (flagS R1 flagsP), x.2, 0, 0⟩, R1.drop (flagS R1 flagsP))
      else match secondS x.2 R1 with
        | none => none
        | some (o2, raw2, R2) =>
          if k = 8 then some (⟨8, pl, 5, raw, raw2, (byt R2).take (flagS R2 flagsP), x.2, o2, 0⟩, R2.drop (flagS R2 flagsP))
          else some (⟨9, pl, 6, raw, raw2, (byt R2).take (flagS R2 flagsT), x.2, o2, 0⟩, R2.drop (flagS R2 flagsT))
/-- the sign of a heredoc behind its `<<`: how many bytes it has, its name, and whether its lines are with interpolation -/
def hereL (B : List UInt8) : Option (Nat × List UInt8 × Bool) :=
  if 0 < wordN B then (if wordN B ≤ 12 then some (wordN B, B.take (wordN B), true) else none)
  else match B[0]? with
    | none => none
    | some q => if (q = 39 ∨ q = 34) ∧ 0 < wordN (B.drop 1) ∧ wordN (B.drop 1) ≤ 12 ∧ (B.drop 1)[wordN (B.drop 1)]? = some q then some (2 + wordN (B.drop 1), (B.drop 1).take (wordN (B.drop 1)), q == 34) else none
def hereS (B : List UInt8) : Option (Nat × List UInt8 × Bool) :=
  if B[0]? = some 60 ∧ B[1]? = some 60 then (hereL (B.drop 2)).map fun r => (2 + r.1, r.2) else none
def notNl (x : Nat × UInt8) : Bool := x.2 != 10
/-- the lines up to the one that is a name, and what is behind it -/
def linesS (name : List UInt8) : Nat → Src → Option (List UInt8 × Src)
  | 0, _ => none
  | f + 1, R => if R = [] then none
    else if byt (R.takeWhile notNl) = name then some ([], (R.dropWhile notNl).drop 1)
    else (linesS name f ((R.dropWhile notNl).drop 1)).map fun r => (byt (R.takeWhile notNl) ++ byt ((R.dropWhile notNl).take 1) ++ r.1, r.2)
/-- the lines of a heredoc are cut out of what is left -/
def cutS (name : List UInt8) (R : Src) : Option (List UInt8 × Src) :=
  match R.dropWhile notNl with
  | [] => none
  | x :: t => (linesS name (t.length + 1) t).map fun r => (r.1, R.takeWhile notNl ++ x :: r.2)
/-- how many bytes a variable has (none: it is wrong; some 0: there is none); ref: a word that is too long behind a sigil is wrong even if it begins with `_` -/
def varS (ref : Bool) (B : List UInt8) : Option Nat :=
  match B with
  | c :: d :: t =>
    if sigilB c.toNat = true then
      (if 12 < wordN (d :: t) then (if ref = true ∨ d ≠ 95 then none else some 0)
       else if 0 < wordN (d :: t) then some (1 + wordN (d :: t))
       else if c = 36 ∧ specB d.toNat = true then some 2 else some 0)
    else some 0
  | _ => some 0
/-- how many bytes a sign has; 0: there is none -/
def signS (B : List UInt8) (term : Bool) : Nat :=
  if 0 < signN B then signN B
  else if term = true ∧ (B[0]? = some 36 ∨ B[0]? = some 64) ∧ (B[1]? = some 36 ∨ B[1]? = some 123) then 1 else 0
def asIs (k n : Nat) (R : Src) : RTok × Src := (⟨k, place R, 0, (byt R).take n, [], [], 0, 0, 0⟩, R.drop n)
def digN (B : List UInt8) : Nat := digR B B.length 1
def plainS (R : Src) (term : Bool) : Option (RTok × Src) :=
  match R with
  | [] => none
  | x :: _ =>
    if alphaB x.2.toNat = true then (if wordN (byt R) ≤ 12 then some (asIs 0 (wordN (byt R)) R) else none)
    else if digB x.2.toNat = true then some (asIs 1 (digN (byt R)) R)
    else if 0 < signS (byt R) term then some (asIs 3 (signS (byt R) term) R) else none
/-- a token, and what is behind it -/
def nextS (ref : Bool) (R : Src) (term : Bool) : Option (RTok × Src) :=
  if term = true then
    match quoteL (byt R) with
    | some (k, n) => quoteS (place R) k (R.drop n)
    | none => match hereS (byt R) with
      | some (n, name, more) => (cutS name (R.drop n)).map fun r => (⟨if more = true then 5 else 4, place R, if more = true then 7 else 0, r.1, [], [], 0, 0, 0⟩, r.2)
      | none => match varS ref (byt R) with
        | none => none
        | some 0 => plainS R term
        | some (n + 1) => some (asIs 2 (n + 1) R)
  else plainS R term
def isSg (x : RTok) (l : List UInt8) : Bool := x.kind == 3 && x.raw == l
/-- the sign behind which a statement may begin -/
def endsS (x : RTok) : Bool := isSg x [59] || ((isSg x [123] || isSg x [125]) && x.opn == 1)
def begS : List RTok → Bool
  | [] => true
  | x :: _ => endsS x
/-- what a `{` is, behind tokens (the last one first), of which the last one stood where a term was expected or not -/
def openS (rt : List RTok) (tms : List Bool) (near : Bool) : Nat :=
  match rt with
  | [] => 1
  | x :: xs =>
    if (tms.headD false && (isSg x [36] || isSg x [64] || isSg x [37] || isSg x [38])) || isSg x [45, 62] then 2
    else if near && (x.kind == 2 || isSg x [93] || (isSg x [125] && x.opn == 2)) then 2
    else if x.kind == 0 || isSg x [41] || endsS x then 1
    else match xs with
      | [] => 3
      | y :: ys => if isSg x [58] && y.kind == 0 && begS ys then 1 else 3
/-- a token that was read, with what it is if it is a brace, and the braces that are open then -/
def braceS (t : RTok) (rt : List RTok) (tms : List Bool) (near : Bool) (ops : List Nat) : RTok × List Nat :=
  if isSg t [123] = true then ({ t with opn := openS rt tms near }, openS rt tms near :: ops)
  else if isSg t [125] = true then ({ t with opn := ops.headD 1 }, ops.tail)
  else (t, ops)
/-- all tokens, the last one first, and before which of them a term was expected -/
def scanS (ref : Bool) : Nat → Src → Bool → List RTok → List Bool → List Nat → Option (List RTok × List Bool)
  | 0, _, _, _, _, _ => none
  | f + 1, R, term, rt, tms, ops =>
    if skipS false R = [] then some (rt, tms)
    else match nextS ref (skipS false R) term with
      | none => none
      | some (t, R2) => scanS ref f R2 (behindB (braceS t rt tms (decide ((skipS false R).length = R.length)) ops).1.kind t.raw (braceS t rt tms (decide ((skipS false R).length = R.length)) ops).1.opn term)
          ((braceS t rt tms (decide ((skipS false R).length = R.length)) ops).1 :: rt) (term :: tms) (braceS t rt tms (decide ((skipS false R).length = R.length)) ops).2
end Go.Proofs.YthmopindibdhnaaGreatDoor.G
namespace Go.Proofs.YthmopindibdhnaaGreatDoor
open Go.RowKit Go.Shelf
variable {l : List UInt8} {f n : Nat}
theorem sep_eq (h : n + 2 < l.length) : sepAt l n = (l[n] == 58 && l[n + 1] == 58 && alphaB l[n + 2].toNat) := by
  unfold sepAt
  rw [List.getElem?_eq_getElem h, List.drop_eq_getElem_cons (by omega : n < l.length), List.drop_eq_getElem_cons (by omega : n + 1 < l.length)]
  simp only [Lib.hasPrefix, List.isPrefixOf, Bool.and_true]
  rw [BEq.comm (a := (58 : UInt8)), BEq.comm (a := (58 : UInt8))]
theorem sep_short (h : ¬ n + 2 < l.length) : sepAt l n = false := by
  cases hs : sepAt l n with
  | false => rfl
  | true => exact absurd (sep_len hs) h
set_option maxRecDepth 100000 in
set_option maxHeartbeats 2000000 in
theorem word_r (s : ByteArray) (hs : s.size ≤ 140737488351232) (w : World) : Calls Tryz.prog 54 #[.string s] w fun e w' => e = .returned (.int .i64 (wordN s.data.toList)) ∧ w = w' := by
  have HA := Lib.hid alpha_r
  have HD := Lib.hid dig_r
  obtain ⟨l, hl⟩ : ∃ l, l = s.data.toList := ⟨_, rfl⟩
  have hsz : s.size = l.length := by rw [hl, ← sizeL]
  by_cases h0 : l = []
  · have hse : s = ⟨#[]⟩ := by
      rw [h0] at hl
      have h3 : s.data = #[] := by
        have := congrArg List.toArray hl
        simpa using this.symm
      cases s with | mk d => simp only at h3; rw [h3]
    subst hse
    go_enter Tryz.func54, Tryz.ntmps54
    go_wp2
    go_ret
    exact ⟨rfl, rfl⟩
  · have h1 : 0 < l.length := List.length_pos_iff.2 h0
    have hne : (s.toList == []) = false := by
      rw [ByteArray.toList_eq, ← hl]; simpa using h0
    have hb : ∀ n (h : n < s.size) (h' : n < l.length), s[n] = l[n] := fun n h h' => by subst hl; exact byteE s n h h'
    have HB := Lib.hid hb
    by_cases ha : alphaB l[0].toNat = true
    · have HR : Hid (∃ f, l.length ≤ 1 + f ∧ wordN l = wordR l f 1) := Lib.hid ⟨_, by omega, wordN_yes h1 ha⟩
      have hsz1 : 0 < s.size := by omega
      have e0 := hb 0 hsz1 h1
      rw [← hl]
      have hA0 := Lib.hid (fun w => HA.out l[0].toNat w)
      rw [ha] at hA0
      generalize wordN l = R at *
      have Hl := Lib.hid hl
      have Hsz := Lib.hid hsz
      clear hl hsz hb
      go_enter Tryz.func54, Tryz.ntmps54
      go_wp2_with fail
      refine (hA0.out _).mono ?_
      rintro e w1 ⟨rfl, rfl⟩
      clear hsz1 e0 ha h0 hne hA0
      go_wp2_with fail
      go_loopw [3] (fun sc wr => ∃ n f : Nat, sc = .int .i64 (n : Int) ∧ n ≤ l.length ∧ l.length ≤ n + f ∧ w = wr ∧ Hid (R = wordR l f n)) (fun sc _ => leftTo l.length sc)
      case atStart => obtain ⟨f, h2, h3⟩ := HR.out; exact ⟨1, f, rfl, by omega, h2, rfl, Lib.hid h3⟩
      case round =>
        obtain ⟨n, f, rfl, hn, hf, rfl, hR⟩ := hrel
        clear HR
        have b0 : (n : Int) + 3 ≤ 9223372036854775807 := by have := Hsz.out; omega
        have c0 : -9223372036854775808 ≤ (n : Int) + 3 := by omega
        have c1 : -9223372036854775808 ≤ (n : Int) + 1 := by omega
        have c2 : -9223372036854775808 ≤ (n : Int) + 2 := by omega
        have b1 : (n : Int) + 1 ≤ 9223372036854775807 := by omega
        have b2 : (n : Int) + 2 ≤ 9223372036854775807 := by omega
        by_cases hc : n < l.length
        · have hsn : n < s.size := by rw [Hsz.out]; exact hc
          have hc' : (n : Int) < (s.size : Int) := by omega
          have en := HB.out n hsn hc
          have hA := Lib.hid (fun w => HA.out l[n].toNat w)
          have hD := Lib.hid (fun w => HD.out l[n].toNat w)
          by_cases ha : (alphaB l[n].toNat || digB l[n].toNat) = true
          · have HE : Hid (∃ f', l.length ≤ n + 1 + f' ∧ R = wordR l f' (n + 1)) := Lib.hid (by rw [hR.out]; exact wordR_on hc hf ha)
            generalize alphaB l[n].toNat = a at *
            generalize digB l[n].toNat = d at *
            clear hR HA HD HB
            cases a
            · obtain rfl : d = true := by simpa using ha
              clear ha
              go_wp2_with fail
              refine (hA.out _).mono ?_
              rintro e w1 ⟨rfl, rfl⟩
              go_wp2_with fail
              refine (hD.out _).mono ?_
              rintro e w1 ⟨rfl, rfl⟩
              go_wp2
              go_roundw
              case rel => obtain ⟨f', h5, h6⟩ := HE.out; exact ⟨n + 1, f', rfl, by omega, h5, trivial, Lib.hid h6⟩
              case measure => simp only [leftTo]; omega
            · clear ha
              go_wp2_with fail
              refine (hA.out _).mono ?_
              rintro e w1 ⟨rfl, rfl⟩
              go_wp2
              go_roundw
              case rel => obtain ⟨f', h5, h6⟩ := HE.out; exact ⟨n + 1, f', rfl, by omega, h5, trivial, Lib.hid h6⟩
              case measure => simp only [leftTo]; omega
          · have ha' : (alphaB l[n].toNat || digB l[n].toNat) = false := by simpa using ha
            have ha1 : alphaB l[n].toNat = false := by revert ha'; cases alphaB l[n].toNat <;> simp
            have ha2 : digB l[n].toNat = false := by revert ha'; cases alphaB l[n].toNat <;> simp
            rw [ha1] at hA
            rw [ha2] at hD
            by_cases hsl : n + 2 < l.length
            · have hse := sep_eq hsl
              have hsl1 : n + 1 < l.length := by omega
              have hsn1 : n + 1 < s.size := by rw [Hsz.out]; exact hsl1
              have hsn2 : n + 2 < s.size := by rw [Hsz.out]; exact hsl
              have en1 := HB.out (n + 1) hsn1 hsl1
              have en2 := HB.out (n + 2) hsn2 hsl
              have hA2 := Lib.hid (fun w => HA.out l[n + 2].toNat w)
              have HT : Hid (sepAt l n = true → ∃ f', l.length ≤ n + 3 + f' ∧ R = wordR l f' (n + 3)) := Lib.hid (fun hs => by rw [hR.out]; exact wordR_sep hc hf ha' hs)
              have HS : Hid (sepAt l n = false → R = n) := Lib.hid (fun hs => by rw [hR.out, wordR_stop hc ha' hs])
              obtain ⟨m, hm⟩ : ∃ m, m = n + 2 := ⟨_, rfl⟩
              obtain ⟨p, hp⟩ : ∃ p, p = n + 1 := ⟨_, rfl⟩
              have hm' : (n : Int) + 2 = (m : Int) := by omega
              have hp' : (n : Int) + 1 = (p : Int) := by omega
              have hsm : m < s.size := by omega
              have hsp : p < s.size := by omega
              have hcm : (m : Int) < (s.size : Int) := by omega
              have hcp : (p : Int) < (s.size : Int) := by omega
              have bm : (m : Int) ≤ 9223372036854775807 := by omega
              have bp : (p : Int) ≤ 9223372036854775807 := by omega
              have enm : s[m] = l[n + 2] := by subst hm; exact en2
              have enp : s[p] = l[n + 1] := by subst hp; exact en1
              have Hn2 := Lib.hid hsl
              clear hR HA HD HB ha ha' ha1 ha2 en1 en2
              generalize alphaB l[n + 2].toNat = a2 at *
              generalize l[n + 2] = x2 at *
              generalize l[n + 1] = x1 at *
              generalize l[n] = x0 at *
              clear hsl hsl1 hc hsn1 hsn2 hm hp b1 c1 b2 c2
              by_cases h58 : x0 = 58
              · have t0 : ((x0.toNat : Int) == 58) = true := by rw [h58]; rfl
                by_cases h59 : x1 = 58
                · have t1 : ((x1.toNat : Int) == 58) = true := by rw [h59]; rfl
                  rw [h58, h59] at hse
                  cases a2
                  · have E : Hid (R = n) := Lib.hid (HS.out (by rw [hse]; rfl))
                    clear hse h58 h59 HT HS
                    go_wp2_with fail
                    refine (hA.out _).mono ?_
                    rintro e w1 ⟨rfl, rfl⟩
                    go_wp2_with fail
                    refine (hD.out _).mono ?_
                    rintro e w1 ⟨rfl, rfl⟩
                    go_wp2_with fail
                    refine (hA2.out _).mono ?_
                    rintro e w1 ⟨rfl, rfl⟩
                    go_wp2
                    go_ret
                    exact ⟨by rw [E.out]; rfl, rfl⟩
                  · have HE := Lib.hid (HT.out (by rw [hse]; rfl))
                    clear hse h58 h59 HT HS
                    go_wp2_with fail
                    refine (hA.out _).mono ?_
                    rintro e w1 ⟨rfl, rfl⟩
                    go_wp2_with fail
                    refine (hD.out _).mono ?_
                    rintro e w1 ⟨rfl, rfl⟩
                    go_wp2_with fail
                    refine (hA2.out _).mono ?_
                    rintro e w1 ⟨rfl, rfl⟩
                    go_wp2
                    go_roundw
                    case rel => obtain ⟨f', h5, h6⟩ := HE.out; have := Hn2.out; exact ⟨n + 3, f', rfl, by omega, h5, trivial, Lib.hid h6⟩
                    case measure => have := Hn2.out; simp only [leftTo]; omega
                · have t1 : ((x1.toNat : Int) == 58) = false := by
                    simp only [beq_eq_false_iff_ne, ne_eq]
                    intro h
                    exact h59 (UInt8.toNat_inj.1 (by simpa using Int.ofNat.inj h))
                  have E : Hid (R = n) := Lib.hid (HS.out (by rw [hse]; simp [h59]))
                  clear hse h58 h59 HT HS hA2
                  go_wp2_with fail
                  refine (hA.out _).mono ?_
                  rintro e w1 ⟨rfl, rfl⟩
                  go_wp2_with fail
                  refine (hD.out _).mono ?_
                  rintro e w1 ⟨rfl, rfl⟩
                  go_wp2
                  go_ret
                  exact ⟨by rw [E.out]; rfl, rfl⟩
              · have t0 : ((x0.toNat : Int) == 58) = false := by
                  simp only [beq_eq_false_iff_ne, ne_eq]
                  intro h
                  exact h58 (UInt8.toNat_inj.1 (by simpa using Int.ofNat.inj h))
                have E : Hid (R = n) := Lib.hid (HS.out (by rw [hse]; simp [h58]))
                clear hse h58 HT HS hA2
                go_wp2_with fail
                refine (hA.out _).mono ?_
                rintro e w1 ⟨rfl, rfl⟩
                go_wp2_with fail
                refine (hD.out _).mono ?_
                rintro e w1 ⟨rfl, rfl⟩
                go_wp2
                go_ret
                exact ⟨by rw [E.out]; rfl, rfl⟩
            · have hs' := sep_short hsl
              have E : Hid (R = n) := Lib.hid (by rw [hR.out, wordR_stop hc ha' hs'])
              have hc2 : decide ((n : Int) + 2 < (s.size : Int)) = false := by rw [Hsz.out]; simp; omega
              clear hR HA HD HB ha ha' ha1 ha2 hs' hsl
              go_wp2_with fail
              refine (hA.out _).mono ?_
              rintro e w1 ⟨rfl, rfl⟩
              go_wp2_with fail
              refine (hD.out _).mono ?_
              rintro e w1 ⟨rfl, rfl⟩
              go_wp2
              go_ret
              exact ⟨by rw [E.out]; rfl, rfl⟩
        · have hc' : ¬ (n : Int) < (s.size : Int) := by rw [Hsz.out]; omega
          have E : Hid (R = n) := Lib.hid (by rw [hR.out, wordR_end (by omega)])
          clear hR HA HD HB
          go_wp2
          go_ret
          exact ⟨by rw [E.out]; rfl, rfl⟩
    · have hsz1 : 0 < s.size := by omega
      have e0 := hb 0 hsz1 h1
      have ha' : alphaB l[0].toNat = false := by simpa using ha
      rw [← hl, wordN_no h1 ha']
      have hA := Lib.hid (fun w => HA.out l[0].toNat w)
      rw [ha'] at hA
      clear HA HD HB hb ha hsz hl
      go_enter Tryz.func54, Tryz.ntmps54
      go_wp2_with fail
      refine (hA.out _).mono ?_
      rintro e w1 ⟨rfl, rfl⟩
      go_wp2
      go_ret
      exact ⟨rfl, rfl⟩
end Go.Proofs.YthmopindibdhnaaGreatDoor
namespace Go.Proofs.YthmopindibdhnaaGreatDoor.G
open Go.RowKit Go.Shelf
def nx (J : Nat → Option Nat) (a : Nat) : Nat := (J a).getD (a + 1)
def restF (l : List UInt8) (J : Nat → Option Nat) : Nat → Nat → Src
  | 0, _ => []
  | f + 1, a => match l[a]? with
    | none => []
    | some c => (a, c) :: restF l J f (nx J a)
def rest (l : List UInt8) (J : Nat → Option Nat) (a : Nat) : Src := restF l J l.length a
/-- lines alone go on elsewhere, and only further on -/
structure JOk (l : List UInt8) (J : Nat → Option Nat) : Prop where
  nl : ∀ a b, J a = some b → l[a]? = some 10
  lt : ∀ a b, J a = some b → a < b
  le : ∀ a b, J a = some b → b ≤ l.length
variable {l : List UInt8} {J : Nat → Option Nat} {a : Nat}
theorem nx_gt (h : JOk l J) (a : Nat) : a < nx J a := by
  unfold nx
  cases e : J a with
  | none => simp
  | some b => simpa using h.lt a b e
theorem nx_le (h : JOk l J) (ha : a < l.length) : nx J a ≤ l.length := by
  unfold nx
  cases e : J a with
  | none => simp; omega
  | some b => simpa using h.le a b e
theorem restF_eq (h : JOk l J) : ∀ f g a, l.length ≤ a + f → l.length ≤ a + g → restF l J f a = restF l J g a
  | 0, g, a, hf, _ => by
    cases g with
    | zero => rfl
    | succ g => rw [restF, restF, List.getElem?_eq_none (by omega)]
  | f + 1, 0, a, _, hg => by rw [restF, restF, List.getElem?_eq_none (by omega)]
  | f + 1, g + 1, a, hf, hg => by
    rw [restF, restF]
    cases e : l[a]? with
    | none => rfl
    | some c =>
      have := nx_gt h a
      simp only
      rw [restF_eq h f g (nx J a) (by omega) (by omega)]
theorem rest_nil (ha : l.length ≤ a) : rest l J a = [] := by
  unfold rest
  cases hn : l.length with
  | zero => rfl
  | succ n => rw [restF, List.getElem?_eq_none ha]
theorem rest_cons (h : JOk l J) (ha : a < l.length) : rest l J a = (a, l[a]) :: rest l J (nx J a) := by
  have hg := nx_gt h a
  unfold rest
  obtain ⟨n, hn⟩ : ∃ n, l.length = n + 1 := ⟨l.length - 1, by omega⟩
  rw [show restF l J l.length a = restF l J (n + 1) a by rw [hn], restF, List.getElem?_eq_getElem ha]
  simp only
  rw [restF_eq h n l.length (nx J a) (by omega) (by omega)]
theorem rest_ne (h : JOk l J) (ha : a < l.length) : rest l J a ≠ [] := by rw [rest_cons h ha]; simp
theorem rest_place (h : JOk l J) (ha : a < l.length) : place (rest l J a) = a := by rw [rest_cons h ha]; rfl
theorem rest_eqnil (h : JOk l J) : rest l J a = [] ↔ l.length ≤ a := by
  refine ⟨fun e => ?_, rest_nil⟩
  by_cases ha : a < l.length
  · exact absurd e (rest_ne h ha)
  · omega
/-- two texts are alike up to place m, and there they end, or a line does -/
def LEq (X Y : List UInt8) (m : Nat) : Prop := (∀ i, i ≤ m → X[i]? = Y[i]?) ∧ (X[m]? = none ∨ X[m]? = some 10)
theorem line_n (h : JOk l J) : ∀ n a, l.length - a ≤ n → ∃ m, LEq (l.drop a) (byt (rest l J a)) m ∧ ∀ i, i ≤ m → (rest l J a).drop i = rest l J (a + i)
  | n, a, hn => by
    by_cases ha : a < l.length
    · have hd : l.drop a = l[a] :: l.drop (a + 1) := List.drop_eq_getElem_cons ha
      have hr := rest_cons h ha
      by_cases h10 : l[a] = 10
      · refine ⟨0, ⟨fun i hi => ?_, .inr ?_⟩, fun i hi => ?_⟩
        · obtain rfl : i = 0 := by omega
          rw [hd, hr]; rfl
        · rw [hd, h10]; rfl
        · obtain rfl : i = 0 := by omega
          rfl
      · have hx : nx J a = a + 1 := by
          unfold nx
          cases e : J a with
          | none => rfl
          | some b =>
            have := h.nl a b e
            rw [List.getElem?_eq_getElem ha] at this
            exact absurd (Option.some.inj this) h10
        rw [hx] at hr
        obtain ⟨n, rfl⟩ : ∃ k, n = k + 1 := ⟨n - 1, by omega⟩
        obtain ⟨m, ⟨h1, h2⟩, h3⟩ := line_n h n (a + 1) (by omega)
        refine ⟨m + 1, ⟨fun i hi => ?_, ?_⟩, fun i hi => ?_⟩
        · cases i with
          | zero => rw [hd, hr]; rfl
          | succ i => rw [hd, hr]; exact h1 i (by omega)
        · rw [hd]; exact h2
        · cases i with
          | zero => rfl
          | succ i =>
            rw [hr, List.drop_succ_cons, h3 i (by omega)]
            congr 1; omega
    · rw [rest_nil (by omega), List.drop_eq_nil_of_le (by omega)]
      exact ⟨0, ⟨fun _ _ => rfl, .inl rfl⟩, fun i hi => by rw [rest_nil (by omega)]; simp⟩
theorem line (h : JOk l J) (a : Nat) : ∃ m, LEq (l.drop a) (byt (rest l J a)) m ∧ ∀ i, i ≤ m → (rest l J a).drop i = rest l J (a + i) := line_n h _ a (Nat.le_refl _)
variable {X Y : List UInt8} {m : Nat}
theorem LEq.eq_of_none (h : LEq X Y m) (hm : X[m]? = none) : X = Y := by
  have hl : X.length ≤ m := List.getElem?_eq_none_iff.1 hm
  have hm2 : Y[m]? = none := by rw [← h.1 m (Nat.le_refl _)]; exact hm
  have hl2 : Y.length ≤ m := List.getElem?_eq_none_iff.1 hm2
  refine List.ext_getElem? fun i => ?_
  by_cases hi : i ≤ m
  · exact h.1 i hi
  · rw [List.getElem?_eq_none (by omega), List.getElem?_eq_none (by omega)]
/-- before the line's end there is a byte further on -/
theorem LEq.lt (h : LEq X Y m) {n : Nat} {c : UInt8} (hn : n ≤ m) (hc : X[n]? = some c) (h10 : c ≠ 10) : n < m := by
  rcases Nat.lt_or_eq_of_le hn with h1 | rfl
  · exact h1
  · rcases h.2 with h2 | h2
    · rw [h2] at hc; cases hc
    · rw [h2] at hc; exact absurd (Option.some.inj hc).symm h10
theorem sep_as (l : List UInt8) (n : Nat) : sepAt l n = true ↔ l[n]? = some 58 ∧ l[n + 1]? = some 58 ∧ ∃ e, l[n + 2]? = some e ∧ alphaB e.toNat = true := by
  by_cases h : n + 2 < l.length
  · rw [sep_eq h, List.getElem?_eq_getElem (by omega : n < l.length), List.getElem?_eq_getElem (by omega : n + 1 < l.length), List.getElem?_eq_getElem h]
    simp [and_assoc]
  · rw [sep_short h, List.getElem?_eq_none (by omega : l.length ≤ n + 2)]
    simp
theorem sep_line (h : LEq X Y m) {n : Nat} (hn : n ≤ m) : sepAt X n = sepAt Y n := by
  rw [Bool.eq_iff_iff, sep_as, sep_as]
  by_cases h0 : X[n]? = some 58
  · have h1 := h.lt hn h0 (by decide)
    rw [h.1 n hn, h.1 (n + 1) (by omega)]
    by_cases h2 : X[n + 1]? = some 58
    · have h3 := h.lt (n := n + 1) (by omega) h2 (by decide)
      rw [h.1 (n + 2) (by omega)]
    · rw [h.1 (n + 1) (by omega)] at h2
      simp [h2]
  · have h1 := h0
    rw [h.1 n hn] at h1
    simp [h0, h1]
theorem alpha_ne {c : UInt8} (h : (alphaB c.toNat || digB c.toNat) = true) : c ≠ 10 := by
  rintro rfl; exact absurd h (by decide)
theorem wordR_line (h : LEq X Y m) : ∀ f g n, n ≤ m → X.length ≤ n + f → Y.length ≤ n + g → wordR X f n = wordR Y g n ∧ wordR X f n ≤ m := by
  intro f
  induction f using Nat.strongRecOn with
  | ind f ih =>
    intro g n hn hf hg
    by_cases hx : n < X.length
    · have hxe := List.getElem?_eq_getElem hx
      have hye : Y[n]? = some X[n] := by rw [← h.1 n hn]; exact hxe
      have hy : n < Y.length := (List.getElem?_eq_some_iff.1 hye).1
      have hxy : Y[n] = X[n] := (List.getElem?_eq_some_iff.1 hye).2
      by_cases ha : (alphaB X[n].toNat || digB X[n].toNat) = true
      · have h1 := h.lt hn hxe (alpha_ne ha)
        cases f with
        | zero => omega
        | succ f =>
          cases g with
          | zero => omega
          | succ g =>
            rw [wordR, wordR, hxe, hye]
            simp only [ha, if_true]
            exact ih f (by omega) g (n + 1) (by omega) (by omega) (by omega)
      · by_cases hs : sepAt X n = true
        · have hs2 : sepAt Y n = true := by rw [← sep_line h hn]; exact hs
          obtain ⟨e0, e1, e, e2, e3⟩ := (sep_as X n).1 hs
          have h1 := h.lt hn e0 (by decide)
          have h2 := h.lt (n := n + 1) (by omega) e1 (by decide)
          have h3 := h.lt (n := n + 2) (by omega) e2 (alpha_ne (by rw [e3]; rfl))
          cases f with
          | zero => omega
          | succ f =>
            cases g with
            | zero => omega
            | succ g =>
              rw [wordR, wordR, hxe, hye]
              simp only [ha, hs, hs2, if_true]
              exact ih f (by omega) g (n + 3) (by omega) (by omega) (by omega)
        · have hs' : sepAt X n = false := by simpa using hs
          have ha' : (alphaB X[n].toNat || digB X[n].toNat) = false := by simpa using ha
          rw [wordR_stop hx ha' hs', wordR_stop hy (by rw [hxy]; exact ha') (by rw [← sep_line h hn]; exact hs')]
          exact ⟨rfl, hn⟩
    · have hy : Y[n]? = none := by rw [← h.1 n hn]; exact List.getElem?_eq_none (by omega)
      rw [wordR_end (by omega), wordR_end (List.getElem?_eq_none_iff.1 hy)]
      exact ⟨rfl, hn⟩
theorem word_line (h : LEq X Y m) : wordN X = wordN Y ∧ wordN X ≤ m := by
  unfold wordN
  rw [← h.1 0 (Nat.zero_le _)]
  by_cases hx : 0 < X.length
  · rw [List.getElem?_eq_getElem hx]
    simp only
    by_cases ha : alphaB X[0].toNat = true
    · have h1 := h.lt (Nat.zero_le _) (List.getElem?_eq_getElem hx) (alpha_ne (by rw [ha]; rfl))
      rw [if_pos ha, if_pos ha]
      exact wordR_line h _ _ 1 h1 (by omega) (by omega)
    · rw [if_neg ha, if_neg ha]; exact ⟨rfl, Nat.zero_le _⟩
  · rw [List.getElem?_eq_none (by omega)]; exact ⟨rfl, Nat.zero_le _⟩
theorem dig_ne {c : UInt8} (h : digB c.toNat = true) : c ≠ 10 := by rintro rfl; exact absurd h (by decide)
theorem digR_line (h : LEq X Y m) : ∀ f g n, n ≤ m → X.length ≤ n + f → Y.length ≤ n + g → digR X f n = digR Y g n ∧ digR X f n ≤ m := by
  intro f
  induction f with
  | zero =>
    intro g n hn hf hg
    have hy : Y[n]? = none := by rw [← h.1 n hn]; exact List.getElem?_eq_none (by omega)
    rw [digR_end (by omega), digR_end (List.getElem?_eq_none_iff.1 hy)]
    exact ⟨rfl, hn⟩
  | succ f ih =>
    intro g n hn hf hg
    by_cases hx : n < X.length
    · have hxe := List.getElem?_eq_getElem hx
      have hye : Y[n]? = some X[n] := by rw [← h.1 n hn]; exact hxe
      have hy : n < Y.length := (List.getElem?_eq_some_iff.1 hye).1
      have hxy : Y[n] = X[n] := (List.getElem?_eq_some_iff.1 hye).2
      by_cases ha : digB X[n].toNat = true
      · have h1 := h.lt hn hxe (dig_ne ha)
        cases g with
        | zero => omega
        | succ g =>
          rw [digR, digR, hxe, hye]
          simp only [ha, if_true]
          exact ih g (n + 1) (by omega) (by omega) (by omega)
      · have ha' : digB X[n].toNat = false := by simpa using ha
        rw [digR_stop hx ha', digR_stop hy (by rw [hxy]; exact ha')]
        exact ⟨rfl, hn⟩
    · have hy : Y[n]? = none := by rw [← h.1 n hn]; exact List.getElem?_eq_none (by omega)
      rw [digR_end (by omega), digR_end (List.getElem?_eq_none_iff.1 hy)]
      exact ⟨rfl, hn⟩
/-- digits at the beginning -/
theorem dig_line (h : LEq X Y m) {c : UInt8} (h0 : X[0]? = some c) (hc : digB c.toNat = true) : digN X = digN Y ∧ digN X ≤ m := by
  have h1 := h.lt (Nat.zero_le _) h0 (dig_ne hc)
  unfold digN
  exact digR_line h _ _ 1 h1 (by omega) (by omega)
theorem sign_nl : ∀ g ∈ signsL, (10 : UInt8) ∉ g := by decide
theorem sign_no10 {k : List UInt8} (h : (10 : UInt8) ∈ k) : isSignB k = false := by
  unfold isSignB
  cases hc : signsL.contains k with
  | false => rfl
  | true => exact absurd h (sign_nl k (by simpa using hc))
theorem take_line (h : LEq X Y m) {k : Nat} (hk : k ≤ m) : X.take k = Y.take k := by
  refine List.ext_getElem? fun i => ?_
  by_cases hi : i < k
  · rw [List.getElem?_take_of_lt hi, List.getElem?_take_of_lt hi, h.1 i (by omega)]
  · rw [List.getElem?_take, List.getElem?_take, if_neg hi, if_neg hi]
theorem signGo_cut {Z : List UInt8} (hz : Z[m]? = some 10) : ∀ k, m ≤ k → signGo Z k = signGo Z m
  | 0, hk => by
    have : m = 0 := by omega
    rw [this]
  | k + 1, hk => by
    rcases Nat.lt_or_eq_of_le hk with h1 | rfl
    · rw [signGo, if_neg, signGo_cut hz k (by omega)]
      rw [sign_no10]; · decide
      exact List.mem_of_getElem? (i := m) (by rw [List.getElem?_take_of_lt h1]; exact hz)
    · rfl
theorem signGo_line (h : LEq X Y m) : ∀ k, k ≤ m → signGo X k = signGo Y k
  | 0, _ => rfl
  | k + 1, hk => by rw [signGo, signGo, take_line h hk, signGo_line h k (by omega)]
theorem sign_line (h : LEq X Y m) : signN X = signN Y ∧ signN X ≤ m := by
  unfold signN
  rcases h.2 with h2 | h2
  · have := h.eq_of_none h2
    subst this
    refine ⟨rfl, ?_⟩
    have := signGo_le X (min 3 X.length)
    have := List.getElem?_eq_none_iff.1 h2
    omega
  · have h3 : Y[m]? = some 10 := by rw [← h.1 m (Nat.le_refl _)]; exact h2
    have hx := (List.getElem?_eq_some_iff.1 h2).1
    have hy := (List.getElem?_eq_some_iff.1 h3).1
    by_cases hm : m ≤ 3
    · rw [signGo_cut h2 _ (by omega), signGo_cut h3 _ (by omega), signGo_line h m (Nat.le_refl _)]
      exact ⟨rfl, signGo_le _ _⟩
    · rw [show min 3 X.length = 3 by omega, show min 3 Y.length = 3 by omega, signGo_line h 3 (by omega)]
      exact ⟨rfl, by have := signGo_le Y 3; omega⟩
theorem signS_line (h : LEq X Y m) (tm : Bool) : signS X tm = signS Y tm ∧ signS X tm ≤ m := by
  obtain ⟨h1, h2⟩ := sign_line h
  unfold signS
  rw [← h1]
  by_cases h0 : 0 < signN X
  · rw [if_pos h0, if_pos h0]; exact ⟨rfl, h2⟩
  · rw [if_neg h0, if_neg h0, ← h.1 0 (Nat.zero_le _)]
    by_cases hx : X[0]? = some 36 ∨ X[0]? = some 64
    · have hm : 0 < m := by
        rcases hx with hx | hx
        · exact h.lt (Nat.zero_le _) hx (by decide)
        · exact h.lt (Nat.zero_le _) hx (by decide)
      rw [← h.1 1 (by omega)]
      refine ⟨rfl, ?_⟩
      split <;> omega
    · rw [if_neg (by simp [hx]), if_neg (by simp [hx])]; exact ⟨rfl, Nat.zero_le _⟩
theorem flagN_off (l all : List UInt8) (a : Nat) : ∀ n, flagN l a all n = flagN (l.drop a) 0 all n := by
  induction all with
  | nil => intro n; rfl
  | cons c t ih => intro n; rw [flagN, flagN, ih, List.getElem?_drop, Nat.zero_add]
theorem flagN_line (h : LEq X Y m) (all : List UInt8) (ha : (10 : UInt8) ∉ all) : ∀ n, n ≤ m → flagN X 0 all n = flagN Y 0 all n ∧ flagN X 0 all n ≤ m := by
  induction all with
  | nil => intro n hn; exact ⟨rfl, hn⟩
  | cons c t ih =>
    intro n hn
    rw [flagN, flagN, Nat.zero_add, ← h.1 n hn]
    have ha2 : (10 : UInt8) ∉ t := fun e => ha (List.mem_cons_of_mem _ e)
    by_cases hc : X[n]? = some c
    · rw [if_pos hc]
      have h1 := h.lt hn hc (fun e => ha (by rw [e]; exact List.mem_cons_self))
      exact ih ha2 (n + 1) h1
    · rw [if_neg hc]; exact ih ha2 n hn
theorem drop_line (h : LEq X Y m) {n : Nat} (hn : n ≤ m) : LEq (X.drop n) (Y.drop n) (m - n) := by
  refine ⟨fun i hi => ?_, ?_⟩
  · rw [List.getElem?_drop, List.getElem?_drop, h.1 (n + i) (by omega)]
  · rw [List.getElem?_drop, show n + (m - n) = m by omega]; exact h.2
theorem quote_line (h : LEq X Y m) : quoteL X = quoteL Y ∧ ∀ k n, quoteL X = some (k, n) → n < m := by
  obtain ⟨h1, h2⟩ := word_line h
  unfold quoteL
  rw [← h1, ← h.1 (wordN X) h2]
  cases e : X[wordN X]? with
  | none => exact ⟨rfl, fun _ _ e => by cases e⟩
  | some c =>
    simp only
    by_cases hd : delimB c.toNat = true
    · have h10 : c ≠ 10 := by rintro rfl; exact absurd hd (by decide)
      have h3 := h.lt h2 e h10
      have hw : wordOr X = wordOr Y := by
        unfold wordOr
        rw [← h1]
        split
        · exact take_line h (by omega)
        · exact take_line h (by omega)
      rw [if_pos hd, if_pos hd, hw]
      refine ⟨rfl, fun k n e2 => ?_⟩
      cases hk : kindL (wordOr Y) with
      | none => rw [hk] at e2; cases e2
      | some kk => rw [hk] at e2; simp at e2; omega
    · rw [if_neg hd, if_neg hd]; exact ⟨rfl, fun _ _ e => by cases e⟩
theorem varS_line (h : LEq X Y m) (ref : Bool) : varS ref X = varS ref Y ∧ ∀ n, varS ref X = some n → n ≤ m := by
  have hz : ∀ n : Nat, some 0 = some n → n ≤ m := fun n e => by cases e; exact Nat.zero_le _
  match X, Y, h with
  | [], [], _ => exact ⟨rfl, hz⟩
  | [], d :: t, h => have := h.1 0 (Nat.zero_le _); simp at this
  | d :: t, [], h => have := h.1 0 (Nat.zero_le _); simp at this
  | [c], [c2], h => exact ⟨rfl, hz⟩
  | [c], c2 :: d :: t, h =>
    have h0 := h.1 0 (Nat.zero_le _)
    simp at h0
    subst h0
    have hs : sigilB c.toNat = false := by
      cases hs : sigilB c.toNat with
      | false => rfl
      | true =>
        have h10 : c ≠ 10 := by rintro rfl; exact absurd hs (by decide)
        have := h.1 1 (h.lt (Nat.zero_le _) (c := c) rfl h10)
        simp at this
    unfold varS
    simp only [hs]
    exact ⟨rfl, hz⟩
  | c :: d :: t, [c2], h =>
    have h0 := h.1 0 (Nat.zero_le _)
    simp at h0
    subst h0
    have hs : sigilB c.toNat = false := by
      cases hs : sigilB c.toNat with
      | false => rfl
      | true =>
        have h10 : c ≠ 10 := by rintro rfl; exact absurd hs (by decide)
        have := h.1 1 (h.lt (Nat.zero_le _) (c := c) rfl h10)
        simp at this
    unfold varS
    simp only [hs]
    exact ⟨rfl, hz⟩
  | c :: d :: t, c2 :: d2 :: t2, h =>
    have h0 := h.1 0 (Nat.zero_le _)
    simp at h0
    subst h0
    by_cases hs : sigilB c.toNat = true
    · have h10 : c ≠ 10 := by rintro rfl; exact absurd hs (by decide)
      have hm := h.lt (Nat.zero_le _) (c := c) rfl h10
      have hd := h.1 1 hm
      simp at hd
      subst hd
      have hl := word_line (drop_line h hm)
      simp only [List.drop_succ_cons, List.drop_zero] at hl
      obtain ⟨w1, w2⟩ := hl
      unfold varS
      simp only [hs, if_true]
      rw [← w1]
      refine ⟨rfl, fun n e => ?_⟩
      split at e
      · split at e
        · cases e
        · exact hz n e
      · split at e
        · cases e; omega
        · split at e
          · rename_i h3
            have hd10 : d ≠ 10 := by rintro rfl; exact absurd h3.2 (by decide)
            have := h.lt (n := 1) hm (c := d) rfl hd10
            cases e; omega
          · exact hz n e
    · have hs : sigilB c.toNat = false := by simpa using hs
      unfold varS
      simp only [hs]
      exact ⟨rfl, hz⟩
theorem hereL_line (h : LEq X Y m) : hereL X = hereL Y ∧ ∀ r, hereL X = some r → r.1 ≤ m := by
  obtain ⟨h1, h2⟩ := word_line h
  unfold hereL
  rw [← h1]
  by_cases h0 : 0 < wordN X
  · rw [if_pos h0, if_pos h0, take_line h h2]
    refine ⟨rfl, fun r e => ?_⟩
    split at e
    · cases e; exact h2
    · cases e
  · rw [if_neg h0, if_neg h0, ← h.1 0 (Nat.zero_le _)]
    cases e : X[0]? with
    | none => exact ⟨rfl, fun _ e => by cases e⟩
    | some q =>
      simp only
      by_cases hq : q = 39 ∨ q = 34
      · have h10 : q ≠ 10 := by rintro rfl; exact absurd hq (by decide)
        have hm := h.lt (Nat.zero_le _) e h10
        have hd : LEq (X.drop 1) (Y.drop 1) (m - 1) := drop_line h hm
        obtain ⟨w1, w2⟩ := word_line hd
        rw [← w1, ← hd.1 _ w2, take_line hd w2]
        refine ⟨rfl, fun r e2 => ?_⟩
        split at e2
        · rename_i h5
          have := hd.lt w2 h5.2.2.2 h10
          cases e2
          show 2 + wordN (X.drop 1) ≤ m
          omega
        · cases e2
      · rw [if_neg (fun h => hq h.1), if_neg (fun h => hq h.1)]
        exact ⟨rfl, fun _ e => by cases e⟩
theorem here_line (h : LEq X Y m) : hereS X = hereS Y ∧ ∀ r, hereS X = some r → r.1 ≤ m := by
  unfold hereS
  rw [← h.1 0 (Nat.zero_le _)]
  by_cases h0 : X[0]? = some 60
  · have hm := h.lt (Nat.zero_le _) h0 (by decide)
    rw [← h.1 1 hm]
    by_cases h1 : X[1]? = some 60
    · have hm2 := h.lt hm h1 (by decide)
      have hd := drop_line h hm2
      obtain ⟨w1, w2⟩ := hereL_line hd
      rw [if_pos ⟨h0, h1⟩, if_pos ⟨h0, h1⟩, w1]
      refine ⟨rfl, fun r e => ?_⟩
      cases e2 : hereL (Y.drop 2) with
      | none => rw [e2] at e; cases e
      | some q =>
        rw [e2] at e
        have := w2 q (by rw [w1]; exact e2)
        cases e
        show 2 + q.1 ≤ m
        omega
    · rw [if_neg (by simp [h1]), if_neg (by simp [h1])]; exact ⟨rfl, fun _ e => by cases e⟩
  · rw [if_neg (by simp [h0]), if_neg (by simp [h0])]; exact ⟨rfl, fun _ e => by cases e⟩
end Go.Proofs.YthmopindibdhnaaGreatDoor.G
