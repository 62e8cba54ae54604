import Derived.Test.YthmopindibdhnaaGreatDoorQ00
import Derived.Shelf.Strings.FieldsAny
import Derived.Shelf.Strings.OnBuilder
import Derived.Shelf.Strings.Search1
import Derived.Test.YthmopindibdhnaaGreatDoorProg
import Derived.Test.YthmopindibdhnaaGreatDoorQ10
import Derived.BigRegion
import Derived.Lib.IndexLaws
import Derived.Test.YthmopindibdhnaaGreatDoorQ04
import Derived.Test.YthmopindibdhnaaGreatDoorQ08
import Derived.Test.YthmopindibdhnaaGreatDoorQ05
namespace Go.Proofs
open Go.Shelf
def Tryz.lays156_ren : Go.Shelf.Ren := ⟨fun | 156 => 127 | 165 => 141 | 166 => 40 | 169 => 45 | 240 => 61 | 241 => 146 | 276 => 84 | 277 => 148 | n => n, fun | 31 => 54 | 9 => 9 | 3 => 3 | 4 => 4 | 0 => 0 | 20 => 20 | 72 => 74 | 76 => 77 | 70 => 71 | 37 => 72 | 75 => 76 | 127 => 87 | 164 => 97 | 5 => 5 | 80 => 81 | n => n, fun | n => n⟩
theorem Tryz.lays156 : Go.Proofs.Lays.n156 Tryz.prog Tryz.lays156_ren := {
 mixed := by kernel_rfl
 f156 := Tryz.func127.trans (congrArg some (by kernel_rfl))
 f165 := Tryz.func141.trans (congrArg some (by kernel_rfl))
 f166 := Tryz.func40.trans (congrArg some (by kernel_rfl))
 f169 := Tryz.func45.trans (congrArg some (by kernel_rfl))
 f240 := Tryz.func61.trans (congrArg some (by kernel_rfl))
 f241 := Tryz.func146.trans (congrArg some (by kernel_rfl))
 f276 := Tryz.func84.trans (congrArg some (by kernel_rfl))
 f277 := Tryz.func148.trans (congrArg some (by kernel_rfl))
 t0 := Tryz.underlying0
 a0 := Tryz.isAgg0
 z0 := Tryz.sizeOf0
 v0 := Tryz.zeroValue0
 t3 := Tryz.underlying3
 a3 := Tryz.isAgg3
 z3 := Tryz.sizeOf3
 v3 := Tryz.zeroValue3
 t4 := Tryz.underlying4
 a4 := Tryz.isAgg4
 z4 := Tryz.sizeOf4
 v4 := Tryz.zeroValue4
 t9 := Tryz.underlying9
 a9 := Tryz.isAgg9
 z9 := Tryz.sizeOf9
 v9 := Tryz.zeroValue9
 t20 := Tryz.underlying20
 a20 := Tryz.isAgg20
 z20 := Tryz.sizeOf20
 v20 := Tryz.zeroValue20
 t31 := Tryz.underlying54
 a31 := Tryz.isAgg54
 z31 := Tryz.sizeOf54
 v31 := Tryz.zeroValue54
 t37 := Tryz.underlying72
 a37 := Tryz.isAgg72
 z37 := Tryz.sizeOf72
 v37 := Tryz.zeroValue72
 t70 := Tryz.underlying71
 a70 := Tryz.isAgg71
 z70 := Tryz.sizeOf71
 v70 := Tryz.zeroValue71
 t72 := Tryz.underlying74
 a72 := Tryz.isAgg74
 z72 := Tryz.sizeOf74
 v72 := Tryz.zeroValue74
 t75 := Tryz.underlying76
 a75 := Tryz.isAgg76
 z75 := Tryz.sizeOf76
 v75 := Tryz.zeroValue76
 t76 := Tryz.underlying77
 a76 := Tryz.isAgg77
 z76 := Tryz.sizeOf77
 v76 := Tryz.zeroValue77
 t127 := Tryz.underlying87
 a127 := Tryz.isAgg87
 z127 := Tryz.sizeOf87
 v127 := Tryz.zeroValue87
 t164 := Tryz.underlying97
 a164 := Tryz.isAgg97
 z164 := Tryz.sizeOf97
 v164 := Tryz.zeroValue97 }
def Tryz.lays157_ren : Go.Shelf.Ren := ⟨fun | 157 => 128 | 229 => 142 | 199 => 143 | 261 => 147 | 311 => 149 | 312 => 150 | n => n, fun | 9 => 9 | 31 => 54 | 3 => 3 | 5 => 5 | 4 => 4 | 119 => 132 | 0 => 0 | 40 => 134 | 152 => 135 | 21 => 21 | 154 => 137 | 51 => 110 | 141 => 139 | 196 => 144 | 193 => 141 | 198 => 147 | 49 => 145 | 194 => 142 | 201 => 150 | 226 => 152 | 46 => 100 | 227 => 153 | n => n, fun | 0 => 1 | 6 => 2 | n => n⟩
theorem Tryz.lays157 : Go.Proofs.Lays.n157 Tryz.prog Tryz.lays157_ren := {
 mixed := by kernel_rfl
 f157 := Tryz.func128.trans (congrArg some (by kernel_rfl))
 f199 := Tryz.func143.trans (congrArg some (by kernel_rfl))
 f229 := Tryz.func142.trans (congrArg some (by kernel_rfl))
 f261 := Tryz.func147.trans (congrArg some (by kernel_rfl))
 f311 := Tryz.func149.trans (congrArg some (by kernel_rfl))
 f312 := Tryz.func150.trans (congrArg some (by kernel_rfl))
 t0 := Tryz.underlying0
 a0 := Tryz.isAgg0
 z0 := Tryz.sizeOf0
 v0 := Tryz.zeroValue0
 t3 := Tryz.underlying3
 a3 := Tryz.isAgg3
 z3 := Tryz.sizeOf3
 v3 := Tryz.zeroValue3
 t4 := Tryz.underlying4
 a4 := Tryz.isAgg4
 z4 := Tryz.sizeOf4
 v4 := Tryz.zeroValue4
 t5 := Tryz.underlying5
 a5 := Tryz.isAgg5
 z5 := Tryz.sizeOf5
 v5 := Tryz.zeroValue5
 t9 := Tryz.underlying9
 a9 := Tryz.isAgg9
 z9 := Tryz.sizeOf9
 v9 := Tryz.zeroValue9
 t21 := Tryz.underlying21
 a21 := Tryz.isAgg21
 z21 := Tryz.sizeOf21
 v21 := Tryz.zeroValue21
 t31 := Tryz.underlying54
 a31 := Tryz.isAgg54
 z31 := Tryz.sizeOf54
 v31 := Tryz.zeroValue54
 t40 := Tryz.underlying134
 a40 := Tryz.isAgg134
 z40 := Tryz.sizeOf134
 v40 := Tryz.zeroValue134
 t46 := Tryz.underlying100
 a46 := Tryz.isAgg100
 z46 := Tryz.sizeOf100
 v46 := Tryz.zeroValue100
 t49 := Tryz.underlying145
 a49 := Tryz.isAgg145
 z49 := Tryz.sizeOf145
 v49 := Tryz.zeroValue145
 t51 := Tryz.underlying110
 a51 := Tryz.isAgg110
 z51 := Tryz.sizeOf110
 v51 := Tryz.zeroValue110
 t119 := Tryz.underlying132
 a119 := Tryz.isAgg132
 z119 := Tryz.sizeOf132
 t141 := Tryz.underlying139
 a141 := Tryz.isAgg139
 z141 := Tryz.sizeOf139
 v141 := Tryz.zeroValue139
 t152 := Tryz.underlying135
 a152 := Tryz.isAgg135
 z152 := Tryz.sizeOf135
 v152 := Tryz.zeroValue135
 t154 := Tryz.underlying137
 a154 := Tryz.isAgg137
 z154 := Tryz.sizeOf137
 v154 := Tryz.zeroValue137
 t193 := Tryz.underlying141
 a193 := Tryz.isAgg141
 z193 := Tryz.sizeOf141
 v193 := Tryz.zeroValue141
 t194 := Tryz.underlying142
 a194 := Tryz.isAgg142
 z194 := Tryz.sizeOf142
 v194 := Tryz.zeroValue142
 t196 := Tryz.underlying144
 a196 := Tryz.isAgg144
 z196 := Tryz.sizeOf144
 v196 := Tryz.zeroValue144
 t198 := Tryz.underlying147
 a198 := Tryz.isAgg147
 z198 := Tryz.sizeOf147
 v198 := Tryz.zeroValue147
 t201 := Tryz.underlying150
 a201 := Tryz.isAgg150
 z201 := Tryz.sizeOf150
 v201 := Tryz.zeroValue150
 t226 := Tryz.underlying152
 a226 := Tryz.isAgg152
 z226 := Tryz.sizeOf152
 v226 := Tryz.zeroValue152
 t227 := Tryz.underlying153
 a227 := Tryz.isAgg153
 z227 := Tryz.sizeOf153
 v227 := Tryz.zeroValue153
 g0 := by kernel_rfl
 g6 := by kernel_rfl }
def Tryz.lays217_ren : Go.Shelf.Ren := ⟨fun | 217 => 87 | 266 => 109 | n => n, fun | 9 => 9 | 5 => 5 | 3 => 3 | n => n, fun | n => n⟩
theorem Tryz.lays217 : Go.Proofs.Lays.n217 Tryz.prog Tryz.lays217_ren := {
 mixed := by kernel_rfl
 f217 := Tryz.func87.trans (congrArg some (by kernel_rfl))
 f266 := Tryz.func109.trans (congrArg some (by kernel_rfl))
 t3 := Tryz.underlying3
 a3 := Tryz.isAgg3
 z3 := Tryz.sizeOf3
 v3 := Tryz.zeroValue3
 t5 := Tryz.underlying5
 a5 := Tryz.isAgg5
 z5 := Tryz.sizeOf5
 v5 := Tryz.zeroValue5
 t9 := Tryz.underlying9
 a9 := Tryz.isAgg9
 z9 := Tryz.sizeOf9
 v9 := Tryz.zeroValue9 }
end Go.Proofs
namespace Go.Proofs.YthmopindibdhnaaGreatDoor.G
open Go.RowKit Go.Shelf Go.Maps
def wSum (xs : List (List UInt8)) : Nat := (xs.map fun x => x.length + 1).sum
theorem wSum_app (a b : List (List UInt8)) : wSum (a ++ b) = wSum a + wSum b := by simp [wSum]
theorem joinTail_len : ∀ r : List (List UInt8), (Lib.joinTail [32] r).length = wSum r
 | [] => rfl
 | x :: r => by
  have := joinTail_len r
  unfold Lib.joinTail at *
  unfold wSum at *
  simp only [List.map_cons, List.flatten_cons, List.length_append, List.length_cons, List.length_nil, List.sum_cons]
  omega
theorem join_len (xs : List (List UInt8)) : (Lib.join xs [32]).length ≤ wSum xs := by
 cases xs with
 | nil => rw [Lib.join_nil]; exact Nat.zero_le _
 | cons x r =>
  rw [Lib.join_cons, List.length_append, joinTail_len]
  unfold wSum
  simp only [List.map_cons, List.sum_cons]
  omega
theorem one_sum (cur : List UInt8) : wSum (if cur = [] then [] else [cur]) ≤ 2 * cur.length := by
 split
 ·simp [wSum]
 ·rename_i h
  have : 0 < cur.length := List.length_pos_iff.2 h
  simp [wSum]; omega
theorem fields_sum : ∀ (f : Nat) (cur l : List UInt8), wSum (Lib.fieldsGoD f cur l) ≤ 2 * (cur.length + l.length)
 | 0, cur, l => by rw [Lib.fieldsGoD]; have := one_sum cur; omega
 | f + 1, cur, l => by
  rw [Lib.fieldsGoD]
  split
  ·have := one_sum cur; omega
  ·split
   ·have h1 := one_sum cur
    have h2 := fields_sum f [] (l.drop (Lib.decodeL l).2)
    rw [wSum_app]
    rw [List.length_drop] at h2
    simp only [List.length_nil] at h2
    omega
   ·have h2 := fields_sum f (cur ++ l.take (Lib.decodeL l).2) (l.drop (Lib.decodeL l).2)
    rw [List.length_append, List.length_take, List.length_drop] at h2
    omega
theorem len_sum : ∀ xs : List (List UInt8), xs.length ≤ wSum xs
 | [] => Nat.zero_le _
 | x :: r => by have := len_sum r; unfold wSum at *; simp only [List.map_cons, List.sum_cons, List.length_cons]; omega
def wordsP (l : List UInt8) : List UInt8 := Lib.join (Lib.fieldsD l) [32]
theorem fieldsD_sum (l : List UInt8) : wSum (Lib.fieldsD l) ≤ 2 * l.length := by have := fields_sum (l.length + 1) [] l; unfold Lib.fieldsD; simpa using this
theorem wordsP_len (l : List UInt8) : (wordsP l).length ≤ 2 * l.length := Nat.le_trans (join_len _) (fieldsD_sum l)
def FieldsAt (W : World) : Prop := ∀ l : List UInt8, l.length ≤ 100000 → Calls Tryz.prog 128 #[.string ⟨l.toArray⟩] W fun e w' => ∃ A, e = .returned (.slice (some ⟨A, 0, none⟩) ((Lib.fieldsD l).map fun x => (⟨x.toArray⟩ : ByteArray)).length ((Lib.fieldsD l).map fun x => (⟨x.toArray⟩ : ByteArray)).length) ∧ A < w'.heap.size ∧ (∀ (j : Nat) x, ((Lib.fieldsD l).map fun x => (⟨x.toArray⟩ : ByteArray))[j]? = some x → w'.cell? ⟨A, j, none⟩ = some (.string x)) ∧ Gr W w'
theorem extra156 : Builder.Extra Tryz.prog Tryz.lays156_ren where
 sizeBuilder := by kernel_rfl
 liesBuilder := by kernel_rfl
 t5 := Tryz.underlying5
 a5 := Tryz.isAgg5
 z5 := Tryz.sizeOf5
 v5 := Tryz.zeroValue5
 infoByte := by kernel_rfl
 cellsByte := by kernel_rfl
 sizeByte := by kernel_rfl
 neB5 := by decide
theorem join_w (A : Nat) (xs : List ByteArray) (W : World) (hc : ∀ (j : Nat) x, xs[j]? = some x → W.cell? ⟨A, j, none⟩ = some (.string x)) (hA : A < W.heap.size) (hn : xs.length ≤ 1000000) (hl : (Lib.join (xs.map (·.data.toList)) [32]).length ≤ 1000000) :
  Calls Tryz.prog 127 #[.slice (some ⟨A, 0, none⟩) xs.length xs.length, .string ⟨#[32]⟩] W fun e w' => e = .returned (.string ⟨(Lib.join (xs.map (·.data.toList)) [32]).toArray⟩) ∧ Gr W w' :=
 (Any.strings_Join Tryz.lays156 extra156 A 0 xs.length xs ⟨#[32]⟩ W (fun j x h => by rw [Nat.zero_add]; exact hc j x h) hA (by omega) (Nat.le_refl _) (by have : (⟨#[32]⟩ : ByteArray).data.toList = [32] := rfl; rw [this]; omega)).mono fun e w' ⟨he, hb⟩ => ⟨he, hb⟩
theorem fields_list (l : List UInt8) : ((Lib.fieldsD l).map fun x => (⟨x.toArray⟩ : ByteArray)).map (·.data.toList) = Lib.fieldsD l := by
 rw [List.map_map]
 have : ((fun x : ByteArray => x.data.toList) ∘ fun x : List UInt8 => (⟨x.toArray⟩ : ByteArray)) = id := rfl
 rw [this, List.map_id]
theorem join_f (A : Nat) (l : List UInt8) (h : l.length ≤ 100000) (W : World) (hc : ∀ (j : Nat) x, ((Lib.fieldsD l).map fun x => (⟨x.toArray⟩ : ByteArray))[j]? = some x → W.cell? ⟨A, j, none⟩ = some (.string x)) (hA : A < W.heap.size) :
  Calls Tryz.prog 127 #[.slice (some ⟨A, 0, none⟩) ((Lib.fieldsD l).map fun x => (⟨x.toArray⟩ : ByteArray)).length ((Lib.fieldsD l).map fun x => (⟨x.toArray⟩ : ByteArray)).length, .string ⟨#[32]⟩] W fun e w' => e = .returned (.string ⟨(wordsP l).toArray⟩) ∧ Gr W w' := by
 have h1 := len_sum (Lib.fieldsD l)
 have h2 := fieldsD_sum l
 have h3 := wordsP_len l
 have := join_w A ((Lib.fieldsD l).map fun x => (⟨x.toArray⟩ : ByteArray)) W hc hA (by rw [List.length_map]; omega) (by rw [fields_list]; unfold wordsP at h3; omega)
 rw [fields_list] at this
 exact this
end Go.Proofs.YthmopindibdhnaaGreatDoor.G
namespace Go.Proofs.YthmopindibdhnaaGreatDoor.G
open Go.RowKit Go.Shelf Go.Maps
variable {w w' : World} {P : Nat} {M : GoMap} {s : ByteArray} {at_ en : Nat} {tm : Bool} {tv bv ov : Value} {o : UInt8}
set_option maxRecDepth 100000 in
set_option maxHeartbeats 2000000 in
theorem qtok_6 {Q fr : Nat} (h : Sc w P M s at_ en tm tv bv ov) (hq : Quo w Q P fr o) (hQP : Q ≠ P) (_hQM : Q ≠ M.blk) (hs : s.size ≤ 4000) (hJ : JOk s.data.toList M.J) (ha : at_ < s.data.toList.length) (hfr : fr < s.size) (hd : delimB o.toNat = true) {raw : List UInt8} {R : Src} (hX : partS o (partU o) 0 (rest s.data.toList M.J (at_ + 1)) = some (raw, R)) (hFA : ∀ W, Bt P Q w W → FieldsAt W) :
  Calls Tryz.prog 112 #[.pointer (some ⟨Q, 0, none⟩), .int .i64 6] w fun e w' => ∃ b, e = .returned (Tok.val ⟨6, 0, ⟨(wordsP (plL o raw)).toArray⟩, ⟨#[]⟩, ⟨#[]⟩, 0⟩) ∧ Sc w' P M s b en tm tv bv ov ∧ Bt P Q w w' ∧ R = rest s.data.toList M.J b ∧ at_ < b ∧ b ≤ s.data.toList.length := by
 have H := Lh h
 have HQ := Lh hq
 have h47 : s.size ≤ 140737488351232 := by omega
 have hat : (at_ : Int) + 1 ≤ 4000 := by rw [sizeL] at ha; omega
 have HPt := Lh (fun (W : World) (hS : Sc W P M s (at_ + 1) en tm tv bv ov) (hq : Quo W Q P fr o) => part_ok hS hq hQP hs hJ (by omega) hfr hd hX)
 have HFA := Lh hFA
 clear hX hJ ha hfr hd hFA
 have hP : P < w.heap.size := h.lt.1
 have hM : M.blk < w.heap.size := h.lt.2
 have hQ : Q < w.heap.size := (Ag hq).1
 obtain ⟨a1, ha1⟩ : ∃ a1, a1 = at_ + 1 := ⟨_, rfl⟩
 have hw1 : IntKind.i64.wrap ((at_ : Int) + 1) = (a1 : Int) := by rw [IntKind.wrap_i64]; omega
 have hw2 : wrap64 ((at_ : Int) + 1) = (a1 : Int) := by simp only [wrap64]; omega
 have G0 : Gr w ((w.alloc (.cells #[.int .i64 0, .int .i64 0, .string ⟨#[]⟩, .string ⟨#[]⟩, .string ⟨#[]⟩, .int .i64 0] 42)).alloc (.cells #[.int .i64 6, .int .i64 0, .string ⟨#[]⟩, .string ⟨#[]⟩, .string ⟨#[]⟩, .int .i64 0] 42)) := ((Gr.refl w).alloc _).alloc _
 obtain ⟨c0, c1, c2, c3, c4, c5, c6, c7, cf⟩ := (h.gr G0).cells
 obtain ⟨q0, q1, q2⟩ := (hq.but (But.of_gr G0) hQP).cells
 rw [← ha1] at HPt
 have HA1 := Lh ha1
 clear h hq ha1 G0
 go_enter Tryz.func112, Tryz.ntmps112
 go_wp2_with fail
 generalize hX : ((w.setCell ⟨P, 1, none⟩ (.int .i64 (a1 : Int))).alloc (.cells #[.int .i64 0, .int .i64 0, .string ⟨#[]⟩, .string ⟨#[]⟩, .string ⟨#[]⟩, .int .i64 0] 42)).alloc (.cells #[.int .i64 6, .int .i64 0, .string ⟨#[]⟩, .string ⟨#[]⟩, .string ⟨#[]⟩, .int .i64 0] 42) = X1
 have hsX : (w.setCell ⟨P, 1, none⟩ (.int .i64 (a1 : Int))).heap.size = w.heap.size := by simp [World.setCell]
 have GX : Gr (w.setCell ⟨P, 1, none⟩ (.int .i64 (a1 : Int))) X1 := by rw [← hX]; exact ((Gr.refl _).alloc _).alloc _
 have SS1 := Lh ((H.out.setAt a1).gr GX)
 have BX := Lh ((But.set (P := P) (w := w) 1 (.int .i64 (a1 : Int))).trans (But.of_gr GX))
 have QQ1 := Lh (HQ.out.but BX.out hQP)
 have BB1 : Hid (Bt P Q w X1) := Lh (Bt.of_but BX.out)
 have KR1 : Hid (X1.heap[w.heap.size]? = some (.cells #[.int .i64 0, .int .i64 0, .string ⟨#[]⟩, .string ⟨#[]⟩, .string ⟨#[]⟩, .int .i64 0] 42 (0, 0))) := Lh (by
  rw [← hX, heap_alloc_old _ _ (by simp), ← hsX]; exact heap_alloc_new _ _)
 have KT1 : Hid (X1.heap[w.heap.size + 1]? = some (.cells #[.int .i64 6, .int .i64 0, .string ⟨#[]⟩, .string ⟨#[]⟩, .string ⟨#[]⟩, .int .i64 0] 42 (0, 0))) := Lh (by
  rw [← hX]; have := heap_alloc_new ((w.setCell ⟨P, 1, none⟩ (.int .i64 (a1 : Int))).alloc (.cells #[.int .i64 0, .int .i64 0, .string ⟨#[]⟩, .string ⟨#[]⟩, .string ⟨#[]⟩, .int .i64 0] 42)) (.cells #[.int .i64 6, .int .i64 0, .string ⟨#[]⟩, .string ⟨#[]⟩, .string ⟨#[]⟩, .int .i64 0] 42); simpa using this)
 clear hX GX hsX c0 c1 c2 c3 c4 c5 c6 c7 cf q0 q1 q2 hw1 hw2 BX
 refine (HPt.out _ SS1.out QQ1.out).mono ?_
 rintro e2 w2 ⟨b1, rfl, hS, hb, hR, hab, hbl, hlen⟩
 have SS2 := Lh hS
 have QQ2 := Lh (QQ1.out.but hb hQP)
 have BB2 := Lh (BB1.out.trans (Bt.of_but hb))
 have KR2 := Lh ((hb.block _ (Ag KR1.out).1 (by simp; omega)).trans KR1.out)
 have KT2 := Lh ((hb.block _ (Ag KT1.out).1 (by simp; omega)).trans KT1.out)
 clear hS hb SS1 QQ1 BB1 KR1 KT1 HPt
 have HR := Lh hR
 have Hab := Lh hab
 have Hbl := Lh hbl
 have Hlen : Hid (raw.length ≤ 4000) := Lh (by rw [sizeL] at hbl; omega)
 have Ha1 : Hid (at_ < b1) := Lh (by have := HA1.out; omega)
 clear hR hab hbl hlen
 have HT := Lh (fun w => plain_l raw o (by have := Hlen.out; omega) w)
 have HPl : Hid ((plL o raw).length ≤ 8000) := Lh (by have := Hlen.out; have := plL_len o raw; omega)
 obtain ⟨q0, q1, q2⟩ := Quo.cells QQ2.out
 go_wp2_with fail
 refine (HT.out _).mono ?_
 rintro e3 w3 ⟨rfl, g⟩
 have SS3 := Lh (SS2.out.gr g)
 have QQ3 := Lh (Quo_gr QQ2.out g)
 have BB3 := Lh (BB2.out.trans (Bt.of_gr g))
 have KR3 := Lh ((g.block _ (Ag KR2.out).1).trans KR2.out)
 have KT3 := Lh ((g.block _ (Ag KT2.out).1).trans KT2.out)
 clear g SS2 QQ2 BB2 KR2 KT2 HT q0 q1 q2
 have HFd := Lh ((HFA.out _ BB3.out) (plL o raw) (by have := HPl.out; omega))
 go_wp2_with fail
 refine (HFd.out).mono ?_
 rintro e4 w4 ⟨A, rfl, hA, hAc, g⟩
 have SS4 := Lh (SS3.out.gr g)
 have QQ4 := Lh (Quo_gr QQ3.out g)
 have BB4 := Lh (BB3.out.trans (Bt.of_gr g))
 have KR4 := Lh ((g.block _ (Ag KR3.out).1).trans KR3.out)
 have KT4 := Lh ((g.block _ (Ag KT3.out).1).trans KT3.out)
 have HJn := Lh (join_f A (plL o raw) (by have := HPl.out; omega) w4 hAc hA)
 clear g SS3 QQ3 BB3 KR3 KT3 HFd hA hAc
 generalize ((Lib.fieldsD (plL o raw)).map fun x => (⟨x.toArray⟩ : ByteArray)).length = nn at *
 go_wp2_with fail
 refine (HJn.out).mono ?_
 rintro e5 w5 ⟨rfl, g⟩
 have SS5 := Lh (SS4.out.gr g)
 have QQ5 := Lh (Quo_gr QQ4.out g)
 have BB5 := Lh (BB4.out.trans (Bt.of_gr g))
 have KR5 := Lh ((g.block _ (Ag KR4.out).1).trans KR4.out)
 have KT5 := Lh ((g.block _ (Ag KT4.out).1).trans KT4.out)
 clear g SS4 QQ4 BB4 KR4 KT4 HJn
 have k2 : w5.cell? ⟨w.heap.size + 1, 2, none⟩ = some (.string ⟨#[]⟩) := by rw [(cellsOf KT5.out).1]; rfl
 have kf : ∀ j, w5.frozen? ⟨w.heap.size + 1, j, none⟩ = false := (cellsOf KT5.out).2
 have BS : But (w.heap.size + 1) w5 (w5.setCell ⟨w.heap.size + 1, 2, none⟩ (.string ⟨(wordsP (plL o raw)).toArray⟩)) := But.set 2 _
 have SS6 := Lh (SS5.out.but BS (by omega) (by omega))
 have QQ6 := Lh (Quo_any QQ5.out BS (by omega))
 have BB6 := Lh (BB5.out.late (by omega) BS)
 have KR6 := Lh ((BS.block _ (Ag KR5.out).1 (by simp)).trans KR5.out)
 have KT6 : Hid ((w5.setCell ⟨w.heap.size + 1, 2, none⟩ (.string ⟨(wordsP (plL o raw)).toArray⟩)).heap[w.heap.size + 1]? = some (.cells #[.int .i64 6, .int .i64 0, .string ⟨(wordsP (plL o raw)).toArray⟩, .string ⟨#[]⟩, .string ⟨#[]⟩, .int .i64 0] 42 (0, 0))) := Lh (by
  have := KT5.out
  simp [World.setCell, Array.getElem?_modify, this])
 clear BS SS5 QQ5 BB5 KR5 KT5
 go_wp2_with (first | (refine wpList_load_row rfl 42 (.tmp 5) rfl (w.heap.size + 1) rfl 42 #[.int .i64 6, .int .i64 0, .string ⟨(wordsP (plL o raw)).toArray⟩, .string ⟨#[]⟩, .string ⟨#[]⟩, .int .i64 0] (0, 0) _ KT6.out Tryz.underlying42 rfl (by rw [tokInfo]; rfl) ?_) | (refine wpList_store_tok rfl (.tmp 4) (.tmp 98) rfl (t := ⟨6, 0, ⟨(wordsP (plL o raw)).toArray⟩, ⟨#[]⟩, ⟨#[]⟩, 0⟩) rfl rfl KR6.out rfl ?_))
 intro W7 hb7 hk7
 have B7 := Lh hb7
 have K7 := Lh hk7
 clear hb7 hk7
 go_wp2_with fail
 refine bodyPost_ret (results_tok rfl rfl K7.out) rfl ?_
 exact ⟨b1, rfl, SS6.out.but B7.out (by omega) (by omega), BB6.out.late (Nat.le_refl _) B7.out, HR.out, Ha1.out, Hbl.out⟩
end Go.Proofs.YthmopindibdhnaaGreatDoor.G
namespace Go.Proofs.YthmopindibdhnaaGreatDoor.G
open Go.RowKit Go.Shelf Go.Maps
variable {w : World} {P : Nat} {M : GoMap} {s : ByteArray} {at_ en : Nat} {tm : Bool} {tv bv ov : Value} {o e : UInt8} {f m : Nat}
set_option maxRecDepth 100000 in
set_option maxHeartbeats 1000000 in
theorem quote_no (h : Sc w P M s at_ en tm tv bv ov) (hat : at_ ≤ s.size) (hs : s.size ≤ 140737488351232) (hq : quoteL (s.data.toList.drop at_) = none) :
  Calls Tryz.prog 99 #[.pointer (some ⟨P, 0, none⟩)] w fun e w' => e = .returned (.tuple #[tok0.val, .bool false]) ∧ Sc w' P M s at_ en tm tv bv ov ∧ But P w w' := by
 have H := Lh h
 have HQ := Lh (fun w => quoteKind_p (s.extract at_ s.size) (by simp [ByteArray.size_extract]; omega) w)
 rw [dropE, hq, show qkV none = .tuple #[.int .i64 0, .int .i64 0, .bool false] from rfl] at HQ
 have b0 : (at_ : Int) ≤ (s.size : Int) := by omega
 have hP : P < w.heap.size := h.lt.1
 have hM : M.blk < w.heap.size := h.lt.2
 clear h hq
 go_enter Tryz.func99, Tryz.ntmps99
 go_wp2_with fail
 generalize hW : w.alloc (.cells #[.int .i64 0, .int .i64 0, .string ⟨#[]⟩, .string ⟨#[]⟩, .string ⟨#[]⟩, .int .i64 0] 42) = W1
 have G1 : Hid (Gr w W1) := Lh (by rw [← hW]; exact (Gr.refl w).alloc _)
 have K1 : Hid (W1.heap[w.heap.size]? = some (.cells #[.int .i64 0, .int .i64 0, .string ⟨#[]⟩, .string ⟨#[]⟩, .string ⟨#[]⟩, .int .i64 0] 42 (0, 0))) := Lh (by rw [← hW]; exact heap_alloc_new w _)
 clear hW
 obtain ⟨c0, c1, c2, c3, c4, c5, c6, c7, cf⟩ := (H.out.gr G1.out).cells
 go_quiet ((go_at_call 111; exact quiet_at (HQ.out _)))
 clear c0 c1 c2 c3 c4 c5 c6 c7 cf
 go_wp2_with (refine wpList_store_tok rfl (.tmp 2) (.tmp 24) rfl (t := tok0) rfl rfl K1.out rfl ?_)
 intro W3 hb3 hk3
 have B3 := Lh hb3
 have K3 := Lh hk3
 clear hb3 hk3
 go_wp2_with fail
 refine bodyPost_ret (results_tokB rfl rfl K3.out rfl) rfl ?_
 exact ⟨rfl, (H.out.gr (G1.out.drewN _)).but B3.out (by omega) (by omega), (But.of_gr (G1.out.drewN _)).late (Nat.le_refl _) B3.out⟩
set_option maxRecDepth 100000 in
set_option maxHeartbeats 1000000 in
theorem quote_bad {o : UInt8} (h : Sc w P M s at_ en tm tv bv ov) (hat : at_ ≤ s.size) (hs : s.size ≤ 4000) (k : Int) (n : Nat) (hq : quoteL (s.data.toList.drop at_) = some (k, n)) (ho : s.data.toList[at_ + n]? = some o)
  (HT : ∀ (W : World) (Q : Nat), Sc W P M s (at_ + n) en tm tv bv ov → Quo W Q P at_ o → Q ≠ P → Q ≠ M.blk → w.heap.size ≤ Q → But P w W → Calls Tryz.prog 112 #[.pointer (some ⟨Q, 0, none⟩), .int .i64 k] W fun e w' => Bad s e ∧ Bt P Q W w') :
  Calls Tryz.prog 99 #[.pointer (some ⟨P, 0, none⟩)] w fun e w' => Bad s e ∧ But P w w' := by
 have H := Lh h
 have HQ := Lh (fun w => quoteKind_p (s.extract at_ s.size) (by simp [ByteArray.size_extract]; omega) w)
 rw [dropE, hq, show qkV (some (k, n)) = .tuple #[.int .i64 k, .int .i64 n, .bool true] from rfl] at HQ
 obtain ⟨a, ha⟩ : ∃ a, a = at_ + n := ⟨_, rfl⟩
 rw [← ha] at ho HT
 have hL : a < s.data.toList.length := (List.getElem?_eq_some_iff.1 ho).1
 have has : a < s.size := by rw [sizeL] at hL; exact hL
 have ea : s[a] = o := by rw [byteE s a has hL]; exact (List.getElem?_eq_some_iff.1 ho).2
 have HT := Lh HT
 have b0 : (at_ : Int) ≤ (s.size : Int) := by omega
 have ha' : (at_ : Int) + (n : Int) = (a : Int) := by omega
 have hwa : IntKind.i64.wrap (a : Int) = (a : Int) := by rw [IntKind.wrap_i64]; omega
 have b1 : (a : Int) < (s.size : Int) := by omega
 have hP : P < w.heap.size := h.lt.1
 have hM : M.blk < w.heap.size := h.lt.2
 have Ha := Lh ha
 clear h hq ho hL ha
 go_enter Tryz.func99, Tryz.ntmps99
 go_wp2_with fail
 generalize hW : w.alloc (.cells #[.int .i64 0, .int .i64 0, .string ⟨#[]⟩, .string ⟨#[]⟩, .string ⟨#[]⟩, .int .i64 0] 42) = W1
 have G1 : Hid (Gr w W1) := Lh (by rw [← hW]; exact (Gr.refl w).alloc _)
 have K1 : Hid (W1.heap[w.heap.size]? = some (.cells #[.int .i64 0, .int .i64 0, .string ⟨#[]⟩, .string ⟨#[]⟩, .string ⟨#[]⟩, .int .i64 0] 42 (0, 0))) := Lh (by rw [← hW]; exact heap_alloc_new w _)
 clear hW
 obtain ⟨c0, c1, c2, c3, c4, c5, c6, c7, cf⟩ := (H.out.gr G1.out).cells
 go_quiet ((go_at_call 111; exact quiet_at (HQ.out _)))
 clear c0 c1 c2 c3 c4 c5 c6 c7 cf
 go_wp2_with fail
 obtain ⟨W2, hW2⟩ : ∃ W2, W2 = W1.drewN nq := ⟨_, rfl⟩
 rw [← hW2]
 have G2 : Hid (Gr w W2) := Lh (by rw [hW2]; exact G1.out.drewN _)
 have K2 : Hid (W2.heap[w.heap.size]? = some (.cells #[.int .i64 0, .int .i64 0, .string ⟨#[]⟩, .string ⟨#[]⟩, .string ⟨#[]⟩, .int .i64 0] 42 (0, 0))) := Lh (by rw [hW2]; exact K1.out)
 have hW2n : w.heap.size < W2.heap.size := (Ag K2.out).1
 clear hW2 K1 G1
 obtain ⟨c0, c1, c2, c3, c4, c5, c6, c7, cf⟩ := (H.out.gr G2.out).cells
 obtain ⟨d0, d1, _, _, _, _, _, _, _⟩ := (H.out.gr (G2.out.alloc (.cells #[.pointer none, .int .i64 0, .int .u8 0] 116))).cells
 go_big_region
 clear c0 c1 c2 c3 c4 c5 c6 c7 cf d0 d1
 obtain ⟨X, hX⟩ : ∃ X, X = (W2.alloc (.cells #[.pointer (some ⟨P, 0, none⟩), .int .i64 (at_ : Int), .int .u8 (o.toNat : Int)] 116)).drew := ⟨_, rfl⟩
 rw [← hX]
 have GX : Hid (Gr W2 X) := Lh (by rw [hX]; exact ((Gr.refl W2).alloc _).drew)
 have QX : Hid (Quo X W2.heap.size P at_ o) := Lh (by rw [hX]; exact heap_alloc_new W2 _)
 have KX := Lh ((GX.out.block _ (Ag K2.out).1).trans K2.out)
 have SX := Lh ((H.out.gr G2.out).gr GX.out)
 have BX := Lh (But.of_gr (P := P) (Gr.trans G2.out GX.out))
 clear hX K2 GX
 obtain ⟨c0, c1, c2, c3, c4, c5, c6, c7, cf⟩ := SX.out.cells
 go_wp2_with fail
 have BS : But P X (X.setCell ⟨P, 1, none⟩ (.int .i64 (a : Int))) := But.set 1 _
 have S3 := Lh (SX.out.setAt a)
 have B3 := Lh (BX.out.trans BS)
 have Q3 := Lh (QX.out.but BS (by omega))
 have K3 := Lh ((BS.block _ (Ag KX.out).1 (by simp; omega)).trans KX.out)
 clear BS SX BX QX KX c0 c1 c2 c3 c4 c5 c6 c7 cf
 refine (HT.out _ _ S3.out Q3.out (by omega) (by omega) (by omega) B3.out).mono ?_
 rintro e4 w4 ⟨⟨q, hq, rfl⟩, hb4⟩
 go_wp2_with fail
 exact ⟨rfl, ⟨q, hq, rfl⟩, Bt.but B3.out (by omega) hb4⟩
set_option maxRecDepth 100000 in
set_option maxHeartbeats 1000000 in
theorem quote_ok {o : UInt8} (h : Sc w P M s at_ en tm tv bv ov) (hat : at_ ≤ s.size) (hs : s.size ≤ 4000) (k : Int) (n : Nat) (hq : quoteL (s.data.toList.drop at_) = some (k, n)) (ho : s.data.toList[at_ + n]? = some o) (tk : Tok) (R2 : Src)
  (HT : ∀ (W : World) (Q : Nat), Sc W P M s (at_ + n) en tm tv bv ov → Quo W Q P at_ o → Q ≠ P → Q ≠ M.blk → w.heap.size ≤ Q → But P w W → Calls Tryz.prog 112 #[.pointer (some ⟨Q, 0, none⟩), .int .i64 k] W fun e w' => ∃ b, e = .returned tk.val ∧ Sc w' P M s b en tm tv bv ov ∧ Bt P Q W w' ∧ R2 = rest s.data.toList M.J b ∧ at_ + n < b ∧ b ≤ s.data.toList.length) :
  Calls Tryz.prog 99 #[.pointer (some ⟨P, 0, none⟩)] w fun e w' => ∃ b, e = .returned (.tuple #[tk.val, .bool true]) ∧ Sc w' P M s b en tm tv bv ov ∧ But P w w' ∧ R2 = rest s.data.toList M.J b ∧ at_ < b ∧ b ≤ s.data.toList.length := by
 have H := Lh h
 have HQ := Lh (fun w => quoteKind_p (s.extract at_ s.size) (by simp [ByteArray.size_extract]; omega) w)
 rw [dropE, hq, show qkV (some (k, n)) = .tuple #[.int .i64 k, .int .i64 n, .bool true] from rfl] at HQ
 obtain ⟨a, ha⟩ : ∃ a, a = at_ + n := ⟨_, rfl⟩
 rw [← ha] at ho HT
 have hL : a < s.data.toList.length := (List.getElem?_eq_some_iff.1 ho).1
 have has : a < s.size := by rw [sizeL] at hL; exact hL
 have ea : s[a] = o := by rw [byteE s a has hL]; exact (List.getElem?_eq_some_iff.1 ho).2
 have HT := Lh HT
 have b0 : (at_ : Int) ≤ (s.size : Int) := by omega
 have ha' : (at_ : Int) + (n : Int) = (a : Int) := by omega
 have hwa : IntKind.i64.wrap (a : Int) = (a : Int) := by rw [IntKind.wrap_i64]; omega
 have b1 : (a : Int) < (s.size : Int) := by omega
 have hP : P < w.heap.size := h.lt.1
 have hM : M.blk < w.heap.size := h.lt.2
 have Ha := Lh ha
 clear h hq ho hL ha
 go_enter Tryz.func99, Tryz.ntmps99
 go_wp2_with fail
 generalize hW : w.alloc (.cells #[.int .i64 0, .int .i64 0, .string ⟨#[]⟩, .string ⟨#[]⟩, .string ⟨#[]⟩, .int .i64 0] 42) = W1
 have G1 : Hid (Gr w W1) := Lh (by rw [← hW]; exact (Gr.refl w).alloc _)
 have K1 : Hid (W1.heap[w.heap.size]? = some (.cells #[.int .i64 0, .int .i64 0, .string ⟨#[]⟩, .string ⟨#[]⟩, .string ⟨#[]⟩, .int .i64 0] 42 (0, 0))) := Lh (by rw [← hW]; exact heap_alloc_new w _)
 clear hW
 obtain ⟨c0, c1, c2, c3, c4, c5, c6, c7, cf⟩ := (H.out.gr G1.out).cells
 go_quiet ((go_at_call 111; exact quiet_at (HQ.out _)))
 clear c0 c1 c2 c3 c4 c5 c6 c7 cf
 go_wp2_with fail
 obtain ⟨W2, hW2⟩ : ∃ W2, W2 = W1.drewN nq := ⟨_, rfl⟩
 rw [← hW2]
 have G2 : Hid (Gr w W2) := Lh (by rw [hW2]; exact G1.out.drewN _)
 have K2 : Hid (W2.heap[w.heap.size]? = some (.cells #[.int .i64 0, .int .i64 0, .string ⟨#[]⟩, .string ⟨#[]⟩, .string ⟨#[]⟩, .int .i64 0] 42 (0, 0))) := Lh (by rw [hW2]; exact K1.out)
 have hW2n : w.heap.size < W2.heap.size := (Ag K2.out).1
 clear hW2 K1 G1
 obtain ⟨c0, c1, c2, c3, c4, c5, c6, c7, cf⟩ := (H.out.gr G2.out).cells
 obtain ⟨d0, d1, _, _, _, _, _, _, _⟩ := (H.out.gr (G2.out.alloc (.cells #[.pointer none, .int .i64 0, .int .u8 0] 116))).cells
 go_big_region
 clear c0 c1 c2 c3 c4 c5 c6 c7 cf d0 d1
 obtain ⟨X, hX⟩ : ∃ X, X = (W2.alloc (.cells #[.pointer (some ⟨P, 0, none⟩), .int .i64 (at_ : Int), .int .u8 (o.toNat : Int)] 116)).drew := ⟨_, rfl⟩
 rw [← hX]
 have GX : Hid (Gr W2 X) := Lh (by rw [hX]; exact ((Gr.refl W2).alloc _).drew)
 have QX : Hid (Quo X W2.heap.size P at_ o) := Lh (by rw [hX]; exact heap_alloc_new W2 _)
 have KX := Lh ((GX.out.block _ (Ag K2.out).1).trans K2.out)
 have SX := Lh ((H.out.gr G2.out).gr GX.out)
 have BX := Lh (But.of_gr (P := P) (Gr.trans G2.out GX.out))
 clear hX K2 GX
 obtain ⟨c0, c1, c2, c3, c4, c5, c6, c7, cf⟩ := SX.out.cells
 go_wp2_with fail
 have BS : But P X (X.setCell ⟨P, 1, none⟩ (.int .i64 (a : Int))) := But.set 1 _
 have S3 := Lh (SX.out.setAt a)
 have B3 := Lh (BX.out.trans BS)
 have Q3 := Lh (QX.out.but BS (by omega))
 have K3 := Lh ((BS.block _ (Ag KX.out).1 (by simp; omega)).trans KX.out)
 clear BS SX BX QX KX c0 c1 c2 c3 c4 c5 c6 c7 cf
 refine (HT.out _ _ S3.out Q3.out (by omega) (by omega) (by omega) B3.out).mono ?_
 rintro e4 w4 ⟨b, rfl, hS4, hb4, hR4, hab4, hbl4⟩
 have S4 := Lh hS4
 have B4 := Lh (Bt.but B3.out (by omega) hb4)
 have K4 := Lh ((hb4.block _ (Ag K3.out).1 (by omega) (by omega)).trans K3.out)
 have HR := Lh hR4
 have Hab := Lh hab4
 have Hbl := Lh hbl4
 clear hS4 hb4 S3 B3 Q3 K3 HT hR4 hab4 hbl4
 have hv : tk.val = .agg #[.int .i64 tk.kind, .int .i64 tk.place, .string tk.text, .string tk.repl, .string tk.more, .int .i64 tk.opn] := rfl
 go_wp2_with (refine wpList_store_tok rfl (.tmp 2) (.tmp 51) rfl (t := tk) rfl rfl K4.out rfl ?_)
 intro W5 hb5 hk5
 have B5 := Lh hb5
 have K5 := Lh hk5
 clear hb5 hk5
 go_wp2_with fail
 refine bodyPost_ret (results_tokB rfl rfl K5.out rfl) rfl ?_
 have := Ha.out
 have := Hab.out
 exact ⟨b, rfl, S4.out.but B5.out (by omega) (by omega), B4.out.late (Nat.le_refl _) B5.out, HR.out, by omega, Hbl.out⟩
end Go.Proofs.YthmopindibdhnaaGreatDoor.G
namespace Go.Proofs.YthmopindibdhnaaGreatDoor.G
open Go.RowKit Go.Shelf Go.Maps
def splitC (c : UInt8) : List UInt8 → Option (List UInt8 × List UInt8)
 | [] => none
 | x :: r => if x = c then some ([], r) else (splitC c r).map fun p => (x :: p.1, p.2)
theorem splitC_some {c : UInt8} : ∀ {l a b : List UInt8}, splitC c l = some (a, b) → l = a ++ c :: b ∧ c ∉ a
 | [], a, b, h => by cases h
 | x :: r, a, b, h => by
  rw [splitC] at h
  by_cases hx : x = c
  ·rw [if_pos hx] at h
   injection h with h; injection h with h1 h2
   subst h1 h2 hx
   exact ⟨rfl, by simp⟩
  ·rw [if_neg hx] at h
   cases hs : splitC c r with
   | none => rw [hs] at h; cases h
   | some p =>
    rw [hs] at h
    injection h with h; injection h with h1 h2
    obtain ⟨e, n⟩ := splitC_some (a := p.1) (b := p.2) hs
    subst h1 h2
    refine ⟨by rw [e]; rfl, ?_⟩
    rw [List.mem_cons, not_or]
    exact ⟨fun h => hx h.symm, n⟩
def splitI (c : UInt8) (l : List UInt8) : Int := match splitC c l with
 | none => -1
 | some p => (p.1.length : Int)
theorem idx_split (c : UInt8) (l : List UInt8) : Lib.indexByte l c = splitI c l := by
 unfold splitI
 induction l with
 | nil => rfl
 | cons x l ih =>
  unfold Lib.indexByte
  rw [splitC, ih]
  by_cases h : x = c
  ·rw [if_pos h, if_pos (by simpa using h)]; rfl
  ·rw [if_neg h, if_neg (by simpa using h)]
   cases hs : splitC c l with
   | none => rfl
   | some p =>
    show (if ((p.1.length : Int) == -1) = true then (-1 : Int) else (p.1.length : Int) + 1) = ((x :: p.1).length : Int)
    rw [if_neg (by simp), List.length_cons]; omega
theorem splitC_pos {c : UInt8} {l a b : List UInt8} (h : splitC c l = some (a, b)) : a = l.take a.length ∧ b = l.drop (a.length + 1) ∧ a.length < l.length := by
 obtain ⟨rfl, _⟩ := splitC_some h
 refine ⟨by rw [List.take_left], ?_, by simp⟩
 rw [← List.drop_drop, List.drop_left]; rfl
theorem takeB (s : ByteArray) (k : Nat) : (s.extract 0 k).data.toList = s.data.toList.take k := by simp
theorem lindex_any (s sep : ByteArray) (c : UInt8) (hc : sep.data.toList = [c]) (w : World) : Calls Tryz.prog 68 #[.string s, .string sep] w fun e w' => e = .returned (.int .i64 (splitI c s.data.toList)) ∧ w = w' := by
 have h1 : sep.size = 1 := by rw [← sizeL, hc]; rfl
 have h0 : 0 < sep.size := by omega
 have hg : sep[0]'h0 = c := by
  have := getL sep 0 h0
  rw [hc] at this
  exact (Option.some.inj this).symm
 have HX : Hid (∀ w, Calls Tryz.prog 87 #[.string s, .int .u8 ((sep[0]'h0).toNat : Int)] w fun e w' => e = .returned (.int .i64 (splitI c s.data.toList)) ∧ w = w') := Lh (fun w => by
  have g := Any.stringslite_IndexByte Tryz.lays217 s ((sep[0]'h0).toNat : Int) w
  change Calls Tryz.prog 87 _ _ _ at g
  refine g.mono fun e w' ⟨he, hw⟩ => ⟨?_, hw.symm⟩
  rw [he, hg, ← idx_split]
  congr 3
  simp)
 have b0 : ((sep.size : Int) == 0) = false := beq_eq_false_iff_ne.2 (by omega)
 have b1 : ((sep.size : Int) == 1) = true := by rw [beq_iff_eq]; omega
 have hb : sep.size ≤ 1 := by omega
 have HQ : (sep.toList == s.toList) = true → Hid (splitI c s.data.toList = 0) := fun h => Lh (by
  rw [beq_iff_eq, ByteArray.toList_eq, ByteArray.toList_eq] at h
  rw [← h, hc]
  unfold splitI
  rw [splitC, if_pos rfl]; rfl)
 clear h1 hg hc
 cases hq : (sep.toList == s.toList)
 ·clear HQ
  go_enter Tryz.func68, Tryz.ntmps68
  go_wp2_with (go_at_call 87; refine (HX.out _).mono ?_; rintro e w1 ⟨rfl, rfl⟩)
  go_ret
  exact ⟨rfl, rfl⟩
 ·have HZ := HQ hq
  clear HQ HX
  go_enter Tryz.func68, Tryz.ntmps68
  go_wp2
  go_ret
  exact ⟨by rw [HZ.out]; rfl, rfl⟩
theorem lcut_no (s sep : ByteArray) (c : UInt8) (hc : sep.data.toList = [c]) (h : splitC c s.data.toList = none) (w : World) :
  Calls Tryz.prog 145 #[.string s, .string sep] w fun e w' => e = .returned (.tuple #[.string s, .string ⟨#[]⟩, .bool false]) ∧ Gr w w' := by
 have H := Lh (fun w => lindex_any s sep c hc w)
 rw [show splitI c s.data.toList = -1 by unfold splitI; rw [h]] at H
 clear h hc
 go_enter Tryz.func145, Tryz.ntmps145
 go_wp2_with (go_at_call 68; refine (H.out _).mono ?_; rintro e w1 ⟨rfl, rfl⟩)
 go_ret3
 exact ⟨rfl, Gr.refl w⟩
theorem lcut_yes (s sep : ByteArray) (c : UInt8) (a b : List UInt8) (hc : sep.data.toList = [c]) (h : splitC c s.data.toList = some (a, b)) (hs : s.size ≤ 140737488351232) (w : World) :
  Calls Tryz.prog 145 #[.string s, .string sep] w fun e w' => e = .returned (.tuple #[.string ⟨a.toArray⟩, .string ⟨b.toArray⟩, .bool true]) ∧ Gr w w' := by
 have H := Lh (fun w => lindex_any s sep c hc w)
 obtain ⟨e1, e2, e3⟩ := splitC_pos h
 rw [sizeL] at e3
 rw [show splitI c s.data.toList = (a.length : Int) by unfold splitI; rw [h]] at H
 have h1 : sep.size = 1 := by rw [← sizeL, hc]; rfl
 have EA : Hid (s.extract 0 a.length = ⟨a.toArray⟩) := Lh (barr_of (by rw [takeB]; exact e1.symm))
 have EB : Hid (s.extract (a.length + sep.size) s.size = ⟨b.toArray⟩) := Lh (barr_of (by rw [h1, dropE]; exact e2.symm))
 have b1 : sep.size ≤ 1 := by omega
 have b2 : 1 ≤ sep.size := by omega
 clear e1 e2 h hc h1
 generalize a.length = k at *
 have c1 : (0 : Int) ≤ ↑k := by omega
 have c2 : (↑k : Int) ≤ ↑s.size := by omega
 have c3 : (0 : Int) ≤ ↑k + ↑sep.size := by omega
 have c4 : (↑k + ↑sep.size : Int) ≤ ↑s.size := by omega
 go_enter Tryz.func145, Tryz.ntmps145
 go_wp2_with (go_at_call 68; refine (H.out _).mono ?_; rintro e w1 ⟨rfl, rfl⟩)
 go_quiet (fail)
 go_wp2
 go_ret3
 exact ⟨by rw [← EA.out, ← EB.out]; rfl, Gr.drewN (Gr.refl _) _⟩
theorem cut_no (s sep : ByteArray) (c : UInt8) (hc : sep.data.toList = [c]) (h : splitC c s.data.toList = none) (w : World) :
  Calls Tryz.prog 133 #[.string s, .string sep] w fun e w' => e = .returned (.tuple #[.string s, .string ⟨#[]⟩, .bool false]) ∧ Gr w w' := by
 have H := Lh (fun w => lcut_no s sep c hc h w)
 clear h hc
 go_enter Tryz.func133, Tryz.ntmps133
 go_wp2_with (go_at_call 145; refine (H.out _).mono ?_; rintro e w1 ⟨rfl, g1⟩)
 go_ret3
 exact ⟨rfl, g1⟩
theorem cut_yes (s sep : ByteArray) (c : UInt8) (a b : List UInt8) (hc : sep.data.toList = [c]) (h : splitC c s.data.toList = some (a, b)) (hs : s.size ≤ 140737488351232) (w : World) :
  Calls Tryz.prog 133 #[.string s, .string sep] w fun e w' => e = .returned (.tuple #[.string ⟨a.toArray⟩, .string ⟨b.toArray⟩, .bool true]) ∧ Gr w w' := by
 have H := Lh (fun w => lcut_yes s sep c a b hc h hs w)
 clear h hc
 go_enter Tryz.func133, Tryz.ntmps133
 go_wp2_with (go_at_call 145; refine (H.out _).mono ?_; rintro e w1 ⟨rfl, g1⟩)
 go_ret3
 exact ⟨rfl, g1⟩
theorem cutp_any (s p : ByteArray) (w : World) : Calls Tryz.prog 113 #[.string s, .string p] w fun e w' => e = .returned (.tuple #[.string ⟨(Lib.trimPrefix s.data.toList p.data.toList).toArray⟩, .bool (Lib.hasPrefix s.data.toList p.data.toList)]) ∧ w = w' :=
 (Any.strings_CutPrefix Tryz.lays103 s p w).mono fun _ _ ⟨he, h⟩ => ⟨he, h.symm⟩
end Go.Proofs.YthmopindibdhnaaGreatDoor.G
namespace Go.Proofs.YthmopindibdhnaaGreatDoor
open Go.RowKit Go.Shelf
def isW (l : List UInt8) : Bool := !l.isEmpty && (decide (l.length ≤ 12) && wordN l == l.length)
theorem over_l (s : ByteArray) (w : World) : Calls Tryz.prog 7 #[.string s] w fun e w' => e = .returned (.bool (decide (16000 < (s.size : Int)))) ∧ w = w' := by
 go_enter Tryz.func7, Tryz.ntmps7
 go_wp2
 go_ret
 exact ⟨rfl, rfl⟩
theorem isWord_p (s : ByteArray) (hs : s.size ≤ 140737488351232) (w : World) : Calls Tryz.prog 115 #[.string s] w fun e w' => e = .returned (.bool (isW s.data.toList)) ∧ w = w' := by
 have HW := Lh (fun w => word_p s hs w)
 by_cases h0 : s.data.toList = []
 ·have E : isW s.data.toList = false := by rw [h0]; rfl
  have t0 : (s.toList == []) = true := by rw [ByteArray.toList_eq, h0]; rfl
  have t1 : (s.toList != []) = false := by rw [ByteArray.toList_eq, h0]; rfl
  rw [E]
  clear E h0 HW
  go_enter Tryz.func115, Tryz.ntmps115
  go_wp2
  go_ret
  exact ⟨rfl, rfl⟩
 ·have t0 : (s.toList == []) = false := by rw [ByteArray.toList_eq]; simpa using h0
  have t1 : (s.toList != []) = true := by rw [ByteArray.toList_eq]; simpa using h0
  by_cases h12 : s.size ≤ 12
  ·have g12 : (s.size : Int) ≤ 12 := by omega
   by_cases hw : wordN s.data.toList = s.data.toList.length
   ·have E : isW s.data.toList = true := by
     have : s.data.toList.isEmpty = false := by simpa using h0
     rw [isW, this, hw, sizeL]; simp [h12]
    have t2 : ((wordN s.data.toList : Int) == (s.size : Int)) = true := by rw [hw, sizeL]; simp
    rw [E]
    generalize wordN s.data.toList = n at *
    clear E h0 hw h12
    go_enter Tryz.func115, Tryz.ntmps115
    go_wp2_with fail
    refine (HW.out _).mono ?_
    rintro e w1 ⟨rfl, rfl⟩
    go_wp2
    go_ret
    exact ⟨rfl, rfl⟩
   ·have E : isW s.data.toList = false := by
     have : (wordN s.data.toList == s.data.toList.length) = false := by simpa using hw
     rw [isW, this]; simp
    have t2 : ((wordN s.data.toList : Int) == (s.size : Int)) = false := by rw [sizeL] at hw; simp; omega
    rw [E]
    generalize wordN s.data.toList = n at *
    clear E h0 hw h12
    go_enter Tryz.func115, Tryz.ntmps115
    go_wp2_with fail
    refine (HW.out _).mono ?_
    rintro e w1 ⟨rfl, rfl⟩
    go_wp2
    go_ret
    exact ⟨rfl, rfl⟩
  ·have g12 : decide ((s.size : Int) ≤ 12) = false := by simp; omega
   have g13 : decide (s.size ≤ 12) = false := by simpa using h12
   have E : isW s.data.toList = false := by
    rw [isW, sizeL, g13]; simp
   rw [E]
   clear E h0 h12 HW
   go_enter Tryz.func115, Tryz.ntmps115
   go_wp2
   go_ret
   exact ⟨rfl, rfl⟩
theorem isWord_r (s : ByteArray) (hs : s.size ≤ 140737488351232) (w : World) : Calls Tryz.prog 91 #[.string s] w fun e w' => e = .returned (.bool (isW s.data.toList)) ∧ w = w' := by
 have HW := Lh (fun w => word_r s hs w)
 by_cases h0 : s.data.toList = []
 ·have E : isW s.data.toList = false := by rw [h0]; rfl
  have t0 : (s.toList == []) = true := by rw [ByteArray.toList_eq, h0]; rfl
  have t1 : (s.toList != []) = false := by rw [ByteArray.toList_eq, h0]; rfl
  rw [E]
  clear E h0 HW
  go_enter Tryz.func91, Tryz.ntmps91
  go_wp2
  go_ret
  exact ⟨rfl, rfl⟩
 ·have t0 : (s.toList == []) = false := by rw [ByteArray.toList_eq]; simpa using h0
  have t1 : (s.toList != []) = true := by rw [ByteArray.toList_eq]; simpa using h0
  by_cases h12 : s.size ≤ 12
  ·have g12 : (s.size : Int) ≤ 12 := by omega
   by_cases hw : wordN s.data.toList = s.data.toList.length
   ·have E : isW s.data.toList = true := by
     have : s.data.toList.isEmpty = false := by simpa using h0
     rw [isW, this, hw, sizeL]; simp [h12]
    have t2 : ((wordN s.data.toList : Int) == (s.size : Int)) = true := by rw [hw, sizeL]; simp
    rw [E]
    generalize wordN s.data.toList = n at *
    clear E h0 hw h12
    go_enter Tryz.func91, Tryz.ntmps91
    go_wp2_with fail
    refine (HW.out _).mono ?_
    rintro e w1 ⟨rfl, rfl⟩
    go_wp2
    go_ret
    exact ⟨rfl, rfl⟩
   ·have E : isW s.data.toList = false := by
     have : (wordN s.data.toList == s.data.toList.length) = false := by simpa using hw
     rw [isW, this]; simp
    have t2 : ((wordN s.data.toList : Int) == (s.size : Int)) = false := by rw [sizeL] at hw; simp; omega
    rw [E]
    generalize wordN s.data.toList = n at *
    clear E h0 hw h12
    go_enter Tryz.func91, Tryz.ntmps91
    go_wp2_with fail
    refine (HW.out _).mono ?_
    rintro e w1 ⟨rfl, rfl⟩
    go_wp2
    go_ret
    exact ⟨rfl, rfl⟩
  ·have g12 : decide ((s.size : Int) ≤ 12) = false := by simp; omega
   have g13 : decide (s.size ≤ 12) = false := by simpa using h12
   have E : isW s.data.toList = false := by
    rw [isW, sizeL, g13]; simp
   rw [E]
   by_cases hw : wordN s.data.toList = s.data.toList.length
   ·have t2 : ((wordN s.data.toList : Int) == (s.size : Int)) = true := by rw [hw, sizeL]; simp
    generalize wordN s.data.toList = n at *
    clear E h0 h12 hw
    go_enter Tryz.func91, Tryz.ntmps91
    go_wp2_with fail
    refine (HW.out _).mono ?_
    rintro e w1 ⟨rfl, rfl⟩
    go_wp2
    go_ret
    exact ⟨rfl, rfl⟩
   ·have t2 : ((wordN s.data.toList : Int) == (s.size : Int)) = false := by rw [sizeL] at hw; simp; omega
    generalize wordN s.data.toList = n at *
    clear E h0 h12 hw
    go_enter Tryz.func91, Tryz.ntmps91
    go_wp2_with fail
    refine (HW.out _).mono ?_
    rintro e w1 ⟨rfl, rfl⟩
    go_wp2
    go_ret
    exact ⟨rfl, rfl⟩
end Go.Proofs.YthmopindibdhnaaGreatDoor
namespace Go.Proofs.YthmopindibdhnaaGreatDoor.G
open Go.RowKit Go.Shelf
def stopB (q : UInt8) : Bool := !(alphaB q.toNat || digB q.toNat) && q != 58
theorem wordR_app {q : UInt8} (hq : stopB q = true) (a b : List UInt8) : ∀ f g n, n ≤ a.length → a.length ≤ n + f → (a ++ q :: b).length ≤ n + g → wordR (a ++ q :: b) g n = wordR a f n := by
 have hq1 : (alphaB q.toNat || digB q.toNat) = false := by unfold stopB at hq; revert hq; cases (alphaB q.toNat || digB q.toNat) <;> simp
 have hq2 : q ≠ 58 := by unfold stopB at hq; intro e; rw [e] at hq; exact absurd hq (by decide)
 have hqa : alphaB q.toNat = false := by revert hq1; cases alphaB q.toNat <;> simp
 intro f
 induction f using Nat.strongRecOn with
 | ind f ih =>
  intro g n hn hf hg
  rw [List.length_append, List.length_cons] at hg
  have hX : ∀ i, (a ++ q :: b)[i]? = if i < a.length then a[i]? else if i = a.length then some q else b[i - (a.length + 1)]? := fun i => by
   by_cases h1 : i < a.length
   ·rw [if_pos h1, List.getElem?_append_left h1]
   ·rw [if_neg h1, List.getElem?_append_right (by omega)]
    by_cases h2 : i = a.length
    ·rw [if_pos h2, h2]; simp
    ·rw [if_neg h2]
     obtain ⟨k, hk⟩ : ∃ k, i - a.length = k + 1 := ⟨i - a.length - 1, by omega⟩
     rw [hk, List.getElem?_cons_succ]
     congr 1; omega
  have hsep : sepAt (a ++ q :: b) n = sepAt a n := by
   rw [Bool.eq_iff_iff, sep_as, sep_as, hX, hX, hX]
   by_cases h1 : n < a.length
   ·rw [if_pos h1]
    by_cases h2 : n + 1 < a.length
    ·rw [if_pos h2]
     by_cases h3 : n + 2 < a.length
     ·rw [if_pos h3]
     ·rw [if_neg h3, List.getElem?_eq_none (by omega : a.length ≤ n + 2), if_pos (by omega)]
      simp [hqa]
    ·rw [if_neg h2, List.getElem?_eq_none (by omega : a.length ≤ n + 1), if_pos (by omega)]
     simp [hq2]
   ·rw [if_neg h1, List.getElem?_eq_none (by omega : a.length ≤ n), if_pos (by omega)]
    simp [hq2]
  cases g with
  | zero => omega
  | succ g =>
   by_cases h1 : n < a.length
   ·cases f with
    | zero => omega
    | succ f =>
     rw [wordR, wordR, hX, if_pos h1, List.getElem?_eq_getElem h1, hsep]
     simp only
     split
     ·exact ih f (by omega) g (n + 1) (by omega) (by omega) (by rw [List.length_append, List.length_cons]; omega)
     ·split
      ·rename_i hs
       have := sep_len hs
       exact ih f (by omega) g (n + 3) (by omega) (by omega) (by rw [List.length_append, List.length_cons]; omega)
      ·rfl
   ·have hse : sepAt a n = false := sep_short (by omega)
    rw [wordR_end (l := a) (by omega), wordR, hX, if_neg h1, if_pos (by omega), hsep, hse]
    simp [hq1]
theorem wordN_app {q : UInt8} (hq : stopB q = true) (a b : List UInt8) : wordN (a ++ q :: b) = wordN a := by
 cases a with
 | nil =>
  have hqa : alphaB q.toNat = false := by unfold stopB at hq; revert hq; cases alphaB q.toNat <;> simp
  rw [List.nil_append]
  unfold wordN
  simp [hqa]
 | cons x t =>
  unfold wordN
  simp only [List.cons_append, List.getElem?_cons_zero]
  split
  ·exact wordR_app hq (x :: t) b _ _ 1 (by simp) (Nat.le_add_left _ _) (Nat.le_add_left _ _)
  ·rfl
theorem wordR_take (l : List UInt8) : ∀ f n, n ≤ l.length → ∀ g m, m = wordR l f n → (l.take m).length ≤ n + g → wordR (l.take m) g n = m := by
 intro f
 induction f using Nat.strongRecOn with
 | ind f ih =>
  intro n hn g m hm hg
  have hle := wordR_le (l := l) f n hn
  rw [← hm] at hle
  have hlen : (l.take m).length = m := by rw [List.length_take]; omega
  rcases Nat.lt_or_eq_of_le hle.2 with hlt | heq
  ·cases f with
   | zero => rw [wordR] at hm; omega
   | succ f =>
    have hnl : n < l.length := by omega
    rw [wordR, List.getElem?_eq_getElem hnl] at hm
    simp only at hm
    have hx : (l.take m)[n]? = some l[n] := by rw [List.getElem?_take_of_lt hlt, List.getElem?_eq_getElem hnl]
    rw [hlen] at hg
    cases g with
    | zero => omega
    | succ g =>
     rw [wordR, hx]
     simp only
     split at hm
     ·rename_i ha
      rw [if_pos ha]
      exact ih f (by omega) (n + 1) (by omega) g m hm (by rw [hlen]; omega)
     ·rename_i ha
      split at hm
      ·rename_i hs
       have h3 := sep_len hs
       have hle3 := wordR_le (l := l) f (n + 3) (by omega)
       rw [← hm] at hle3
       have hs2 : sepAt (l.take m) n = true := by
        obtain ⟨e0, e1, e, e2, e3⟩ := (sep_as l n).1 hs
        exact (sep_as _ n).2 ⟨by rw [List.getElem?_take_of_lt (by omega)]; exact e0, by rw [List.getElem?_take_of_lt (by omega)]; exact e1, e, by rw [List.getElem?_take_of_lt (by omega)]; exact e2, e3⟩
       rw [if_neg ha, if_pos hs2]
       exact ih f (by omega) (n + 3) (by omega) g m hm (by rw [hlen]; omega)
      ·omega
  ·rw [wordR_end (by omega)]; exact heq
theorem wordN_take (l : List UInt8) : wordN (l.take (wordN l)) = wordN l := by
 by_cases h0 : wordN l = 0
 ·rw [h0]; rfl
 ·have hl : 0 < l.length := by have := wordN_le l; omega
  cases ha : alphaB l[0].toNat with
  | false => exact absurd (wordN_no hl ha) h0
  | true =>
   have hw := wordN_yes hl ha
   obtain ⟨m, hm⟩ : ∃ m, m = wordN l := ⟨_, rfl⟩
   rw [← hm] at h0 hw ⊢
   have hle : m ≤ l.length := by rw [hm]; exact wordN_le l
   have hlen : (l.take m).length = m := by rw [List.length_take]; omega
   have h1 : 0 < (l.take m).length := by omega
   have hx : (l.take m)[0] = l[0] := by rw [List.getElem_take]
   rw [wordN_yes h1 (by rw [hx]; exact ha)]
   exact wordR_take l _ 1 hl _ m hw (by omega)
theorem isW_take (l : List UInt8) : isW (l.take (wordN l)) = (decide (0 < wordN l) && decide (wordN l ≤ 12)) := by
 have hle := wordN_le l
 have hlen : (l.take (wordN l)).length = wordN l := by rw [List.length_take]; omega
 unfold isW
 rw [hlen, wordN_take]
 by_cases h0 : wordN l = 0
 ·rw [h0]; rfl
 ·have : (l.take (wordN l)).isEmpty = false := by
   cases h : l.take (wordN l) with
   | nil => rw [h] at hlen; exact absurd hlen.symm h0
   | cons => rfl
  rw [this]
  simp [Nat.pos_of_ne_zero h0]
def hwL (l : List UInt8) : List UInt8 × List UInt8 :=
 if l[0]? = some 39 then (match splitC 39 (l.drop 1) with | none => ([], []) | some p => (p.1, [39]))
 else if l[0]? = some 34 then (match splitC 34 (l.drop 1) with | none => ([], []) | some p => (p.1, [34]))
 else (l.take (wordN l), [])
theorem splitC_none {c : UInt8} : ∀ {l : List UInt8}, splitC c l = none → c ∉ l
 | [], _ => by simp
 | x :: t, h => by
  rw [splitC] at h
  split at h
  ·cases h
  ·rename_i hx
   cases hs : splitC c t with
   | none => have := splitC_none hs; simp [this]; exact fun e => hx e.symm
   | some p => rw [hs] at h; cases h
theorem here_quote (q : UInt8) (hq : q = 39 ∨ q = 34) (l : List UInt8) (h0 : l[0]? = some q) :
  (∀ wd, (splitC q (l.drop 1)).map Prod.fst = some wd → isW wd = true → hereL l = some (2 + wd.length, wd, q == 34)) ∧
  ((∀ wd, (splitC q (l.drop 1)).map Prod.fst = some wd → isW wd = false) → hereL l = none) := by
 have hs : stopB q = true := by rcases hq with rfl | rfl <;> decide
 have hl : 0 < l.length := (List.getElem?_eq_some_iff.1 h0).1
 have hw0 : wordN l = 0 := by
  have hx : l[0] = q := (List.getElem?_eq_some_iff.1 h0).2
  exact wordN_no hl (by rw [hx]; rcases hq with rfl | rfl <;> decide)
 have hH : hereL l = if 0 < wordN (l.drop 1) ∧ wordN (l.drop 1) ≤ 12 ∧ (l.drop 1)[wordN (l.drop 1)]? = some q then some (2 + wordN (l.drop 1), (l.drop 1).take (wordN (l.drop 1)), q == 34) else none := by
  unfold hereL
  rw [if_neg (by omega), h0]
  simp only [hq, true_and]
 generalize l.drop 1 = t at *
 cases hsp : splitC q t with
 | none =>
  have hno := splitC_none hsp
  refine ⟨fun wd h => (by simp at h), fun _ => ?_⟩
  rw [hH, if_neg]
  rintro ⟨_, _, h3⟩
  exact hno (List.mem_of_getElem? h3)
 | some p =>
  obtain ⟨a, b⟩ := p
  obtain ⟨rfl, hna⟩ := splitC_some hsp
  have hwa := wordN_app hs a b
  have hla := wordN_le a
  rw [hH, hwa]
  simp only [Option.map_some, Option.some.injEq, forall_eq']
  refine ⟨fun hW => ?_, fun hW => ?_⟩
  ·unfold isW at hW
   simp only [Bool.and_eq_true, Bool.not_eq_true', decide_eq_true_eq, beq_iff_eq] at hW
   obtain ⟨e1, e2, e3⟩ := hW
   have hpos : 0 < a.length := by cases a with | nil => cases e1 | cons => simp
   rw [if_pos ⟨by omega, by omega, by rw [e3, List.getElem?_append_right (Nat.le_refl _)]; simp⟩, e3, List.take_left]
  ·rw [if_neg]
   rintro ⟨h1, h2, h3⟩
   have hal : wordN a = a.length := by
    rcases Nat.lt_or_eq_of_le hla with h4 | h4
    ·rw [List.getElem?_append_left h4] at h3
     exact absurd (List.mem_of_getElem? h3) hna
    ·exact h4
   have : isW a = true := by
    unfold isW
    cases a with
    | nil => simp at hal h1; omega
    | cons x t => simp only [List.isEmpty_cons, Bool.not_false, Bool.true_and, Bool.and_eq_true, decide_eq_true_eq, beq_iff_eq]; exact ⟨by omega, hal⟩
   rw [this] at hW; cases hW
theorem here_hw (l : List UInt8) : hereL l = if isW (hwL l).1 = true then some (2 * (hwL l).2.length + (hwL l).1.length, (hwL l).1, (hwL l).2 != [39]) else none := by
 unfold hwL
 by_cases h39 : l[0]? = some 39
 ·rw [if_pos h39]
  obtain ⟨h1, h2⟩ := here_quote 39 (.inl rfl) l h39
  cases hs : splitC 39 (l.drop 1) with
  | none => rw [hs] at h2; rw [h2 (fun wd h => by cases h)]; rfl
  | some p =>
   rw [hs] at h1 h2
   cases hW : isW p.1 with
   | true => rw [h1 p.1 rfl hW]; simp
   | false => rw [h2 (fun wd h => by cases h; exact hW)]; simp
 ·rw [if_neg h39]
  by_cases h34 : l[0]? = some 34
  ·rw [if_pos h34]
   obtain ⟨h1, h2⟩ := here_quote 34 (.inr rfl) l h34
   cases hs : splitC 34 (l.drop 1) with
   | none => rw [hs] at h2; rw [h2 (fun wd h => by cases h)]; rfl
   | some p =>
    rw [hs] at h1 h2
    cases hW : isW p.1 with
    | true => rw [h1 p.1 rfl hW]; simp
    | false => rw [h2 (fun wd h => by cases h; exact hW)]; simp
  ·rw [if_neg h34]
   simp only [isW_take]
   have hle := wordN_le l
   have hlen : (l.take (wordN l)).length = wordN l := by rw [List.length_take]; omega
   unfold hereL
   by_cases h0 : 0 < wordN l
   ·rw [if_pos h0]
    by_cases h12 : wordN l ≤ 12
    ·simp [h0, h12, hlen]
    ·simp [h12]
   ·rw [if_neg h0]
    cases e : l[0]? with
    | none => simp [h0]
    | some q =>
     rw [e] at h39 h34
     have : ¬ (q = 39 ∨ q = 34) := fun h => h.elim (fun e => h39 (by rw [e])) (fun e => h34 (by rw [e]))
     simp [h0, this]
end Go.Proofs.YthmopindibdhnaaGreatDoor.G
namespace Go.Proofs.YthmopindibdhnaaGreatDoor.G
open Go.RowKit Go.Shelf Go.Maps
theorem pre_one (q : UInt8) (l : List UInt8) : Lib.hasPrefix l [q] = decide (l[0]? = some q) := by
 unfold Lib.hasPrefix
 cases l with
 | nil => rfl
 | cons x t =>
  simp only [List.isPrefixOf, List.getElem?_cons_zero, Option.some.injEq]
  rw [Bool.and_true]
  by_cases h : x = q
  ·rw [h]; simp
  ·have h2 : (q == x) = false := by simpa using fun e => h e.symm
   rw [h2]; simp [h]
theorem trim_one (q : UInt8) (l : List UInt8) (h : l[0]? = some q) : Lib.trimPrefix l [q] = l.drop 1 := by
 unfold Lib.trimPrefix
 rw [pre_one]
 simp [h]
set_option maxRecDepth 100000 in
set_option maxHeartbeats 1000000 in
theorem hw_p (s : ByteArray) (hs : s.size ≤ 1000000) (w : World) : Calls Tryz.prog 114 #[.string s] w fun e w' => e = .returned (.tuple #[.string ⟨(hwL s.data.toList).1.toArray⟩, .string ⟨(hwL s.data.toList).2.toArray⟩]) ∧ Gr w w' := by
 obtain ⟨l, hl⟩ : ∃ l, l = s.data.toList := ⟨_, rfl⟩
 have HC := Lh (fun p w => cutp_any s p w)
 have HW := Lh (fun w => word_p s (by omega) w)
 have hlen : l.length ≤ 1000000 := by rw [hl, sizeL]; exact hs
 have hwl := wordN_le l
 have hwl2 : wordN l ≤ s.size := by rw [hl, sizeL] at hwl; rw [hl]; exact hwl
 have HTk : Hid (s.extract 0 (wordN l) = ⟨(l.take (wordN l)).toArray⟩) := Lh (baE (by rw [extractE, ← hl]; simp))
 rw [← hl] at HW HC ⊢
 obtain ⟨R, hR⟩ : ∃ R, R = hwL l := ⟨_, rfl⟩
 rw [← hR]
 have HR := Lh hR
 have bw : (wordN l : Int) ≤ (s.size : Int) := by omega
 generalize hn : wordN l = n at *
 have Hn := Lh hn
 have Hlen := Lh hlen
 clear hl hR hwl hn hlen
 go_enter Tryz.func114, Tryz.ntmps114
 go_wp2_with fail
 generalize hW1 : w.alloc (.cells #[.string ⟨#[39]⟩, .string ⟨#[34]⟩] 9) = W1
 have G1 := Lh (show Gr w W1 by rw [← hW1]; exact (Gr.refl w).alloc _)
 have K1 := Lh (show W1.heap[w.heap.size]? = some (.cells #[.string ⟨#[39]⟩, .string ⟨#[34]⟩] 9 (0, 0)) by rw [← hW1]; exact heap_alloc_new w _)
 clear hW1
 go_loopw [13] (fun v wr => ∃ i : Nat, v = .int .i64 (i : Int) ∧ i ≤ 2 ∧ Hid ((1 ≤ i → l[0]? ≠ some 39) ∧ (2 ≤ i → l[0]? ≠ some 34)) ∧ Gr W1 wr) (fun v _ => leftTo 2 v)
 case atStart => exact ⟨0, rfl, by omega, Lh ⟨by omega, by omega⟩, Gr.refl _⟩
 case round =>
  obtain ⟨i, rfl, hi, hno, hg⟩ := hrel
  have Hg := Lh hg
  have kc := cellsOf ((hg.block _ (Ag K1.out).1).trans K1.out)
  clear hg
  match i, hi, hno with
  | 0, hi, hno =>
   have k0 : wr.cell? ⟨w.heap.size, 0, none⟩ = some (.string ⟨#[39]⟩) := by rw [kc.1]; rfl
   clear kc
   have hP := Lh (fun w => HC.out ⟨#[39]⟩ w)
   rw [show (⟨#[39]⟩ : ByteArray).data.toList = [39] from rfl, pre_one] at hP
   by_cases hq : l[0]? = some 39
   ·rw [trim_one _ _ hq, decide_eq_true hq] at hP
    obtain ⟨inn, hinn⟩ : ∃ inn : ByteArray, inn = ⟨(l.drop 1).toArray⟩ := ⟨_, rfl⟩
    rw [← hinn] at hP
    have hil : inn.data.toList = l.drop 1 := by rw [hinn]
    have his : inn.size ≤ 140737488351232 := by rw [← sizeL, hil, List.length_drop]; have := Hlen.out; omega
    cases hsp : splitC 39 (l.drop 1) with
    | none =>
     have hCt := Lh (fun w => cut_no inn ⟨#[39]⟩ 39 rfl (by rw [hil]; exact hsp) w)
     have HE : Hid (R = ([], [])) := Lh (by rw [HR.out]; unfold hwL; rw [if_pos hq, hsp])
     clear hq hsp hno hinn hil
     go_wp2_with fail
     refine (hP.out _).mono ?_
     rintro e w2 ⟨rfl, rfl⟩
     go_wp2_with fail
     refine (hCt.out _).mono ?_
     rintro e w3 ⟨rfl, g3⟩
     go_wp2_with fail
     go_ret2
     rw [HE.out]
     exact ⟨rfl, Gr.trans (Gr.trans G1.out Hg.out) g3⟩
    | some p =>
     obtain ⟨a, b⟩ := p
     have hCt := Lh (fun w => cut_yes inn ⟨#[39]⟩ 39 a b rfl (by rw [hil]; exact hsp) his w)
     have HE : Hid (R = (a, [39])) := Lh (by rw [HR.out]; unfold hwL; rw [if_pos hq, hsp])
     clear hq hsp hno hinn hil
     go_wp2_with fail
     refine (hP.out _).mono ?_
     rintro e w2 ⟨rfl, rfl⟩
     go_wp2_with fail
     refine (hCt.out _).mono ?_
     rintro e w3 ⟨rfl, g3⟩
     go_wp2_with fail
     go_ret2
     rw [HE.out]
     exact ⟨rfl, Gr.trans (Gr.trans G1.out Hg.out) g3⟩
   ·rw [decide_eq_false hq] at hP
    have HN : Hid ((1 ≤ 1 → l[0]? ≠ some 39) ∧ (2 ≤ 1 → l[0]? ≠ some 34)) := Lh ⟨fun _ => hq, fun h => absurd h (by omega)⟩
    clear hq hno
    go_wp2_with fail
    refine (hP.out _).mono ?_
    rintro e w2 ⟨rfl, rfl⟩
    go_wp2_with fail
    go_roundw
    case rel => exact ⟨1, rfl, by omega, HN, Hg.out⟩
    case measure => simp [leftTo]
  | 1, hi, hno =>
   have k1 : wr.cell? ⟨w.heap.size, 1, none⟩ = some (.string ⟨#[34]⟩) := by rw [kc.1]; rfl
   clear kc
   have hP := Lh (fun w => HC.out ⟨#[34]⟩ w)
   rw [show (⟨#[34]⟩ : ByteArray).data.toList = [34] from rfl, pre_one] at hP
   by_cases hq : l[0]? = some 34
   ·rw [trim_one _ _ hq, decide_eq_true hq] at hP
    obtain ⟨inn, hinn⟩ : ∃ inn : ByteArray, inn = ⟨(l.drop 1).toArray⟩ := ⟨_, rfl⟩
    rw [← hinn] at hP
    have hil : inn.data.toList = l.drop 1 := by rw [hinn]
    have his : inn.size ≤ 140737488351232 := by rw [← sizeL, hil, List.length_drop]; have := Hlen.out; omega
    cases hsp : splitC 34 (l.drop 1) with
    | none =>
     have hCt := Lh (fun w => cut_no inn ⟨#[34]⟩ 34 rfl (by rw [hil]; exact hsp) w)
     have HE : Hid (R = ([], [])) := Lh (by rw [HR.out]; unfold hwL; rw [if_neg (hno.out.1 (by omega)), if_pos hq, hsp])
     clear hq hsp hno hinn hil
     go_wp2_with fail
     refine (hP.out _).mono ?_
     rintro e w2 ⟨rfl, rfl⟩
     go_wp2_with fail
     refine (hCt.out _).mono ?_
     rintro e w3 ⟨rfl, g3⟩
     go_wp2_with fail
     go_ret2
     rw [HE.out]
     exact ⟨rfl, Gr.trans (Gr.trans G1.out Hg.out) g3⟩
    | some p =>
     obtain ⟨a, b⟩ := p
     have hCt := Lh (fun w => cut_yes inn ⟨#[34]⟩ 34 a b rfl (by rw [hil]; exact hsp) his w)
     have HE : Hid (R = (a, [34])) := Lh (by rw [HR.out]; unfold hwL; rw [if_neg (hno.out.1 (by omega)), if_pos hq, hsp])
     clear hq hsp hno hinn hil
     go_wp2_with fail
     refine (hP.out _).mono ?_
     rintro e w2 ⟨rfl, rfl⟩
     go_wp2_with fail
     refine (hCt.out _).mono ?_
     rintro e w3 ⟨rfl, g3⟩
     go_wp2_with fail
     go_ret2
     rw [HE.out]
     exact ⟨rfl, Gr.trans (Gr.trans G1.out Hg.out) g3⟩
   ·rw [decide_eq_false hq] at hP
    have HN : Hid ((1 ≤ 2 → l[0]? ≠ some 39) ∧ (2 ≤ 2 → l[0]? ≠ some 34)) := Lh ⟨fun _ => hno.out.1 (by omega), fun _ => hq⟩
    clear hq hno
    go_wp2_with fail
    refine (hP.out _).mono ?_
    rintro e w2 ⟨rfl, rfl⟩
    go_wp2_with fail
    go_roundw
    case rel => exact ⟨2, rfl, by omega, HN, Hg.out⟩
    case measure => simp [leftTo]
  | 2, hi, hno =>
   have HE : Hid (R = (l.take n, [])) := Lh (by rw [HR.out]; unfold hwL; rw [if_neg (hno.out.1 (by omega)), if_neg (hno.out.2 (by omega)), Hn.out])
   have tk := HTk.out
   clear kc hno
   go_wp2_with fail
   refine (HW.out _).mono ?_
   rintro e w2 ⟨rfl, rfl⟩
   go_wp2_with fail
   go_ret2
   rw [HE.out]
   exact ⟨by first | rfl | (rw [← tk]; rfl), Gr.trans G1.out Hg.out⟩
end Go.Proofs.YthmopindibdhnaaGreatDoor.G
