/- CShelfG GWords GQtok6 GQuo GCut LIsW -/
import Derived.Shelf.Strings.FieldsAny
import Derived.Shelf.Strings.OnBuilder
import Derived.Shelf.Strings.Search1
import Derived.Test.YthmopindibdhnaaDoorProg
import Derived.Test.YthmopindibdhnaaDoorM13
import Derived.BigRegion
import Derived.Lib.IndexLaws
import Derived.Test.YthmopindibdhnaaDoorM05
import Derived.Test.YthmopindibdhnaaDoorM11
namespace Go.Proofs
open Go.Shelf
def Tryd.lays156_ren : Go.Shelf.Ren := ⟨fun | 156 => 67 | 165 => 81 | 166 => 14 | 169 => 19 | 240 => 24 | 241 => 86 | 276 => 36 | 277 => 89 | n => n, fun | 31 => 90 | 9 => 9 | 3 => 3 | 4 => 4 | 0 => 0 | 20 => 20 | 72 => 48 | 76 => 51 | 70 => 45 | 37 => 46 | 75 => 50 | 127 => 65 | 164 => 69 | 5 => 5 | 80 => 57 | n => n, fun | n => n⟩
theorem Tryd.lays156 : Go.Proofs.Lays.n156 Tryd.prog Tryd.lays156_ren := {
  mixed := by kernel_rfl
  f156 := Tryd.func67.trans (congrArg some (by kernel_rfl))
  f165 := Tryd.func81.trans (congrArg some (by kernel_rfl))
  f166 := Tryd.func14.trans (congrArg some (by kernel_rfl))
  f169 := Tryd.func19.trans (congrArg some (by kernel_rfl))
  f240 := Tryd.func24.trans (congrArg some (by kernel_rfl))
  f241 := Tryd.func86.trans (congrArg some (by kernel_rfl))
  f276 := Tryd.func36.trans (congrArg some (by kernel_rfl))
  f277 := Tryd.func89.trans (congrArg some (by kernel_rfl))
  t0 := Tryd.underlying0
  a0 := Tryd.isAgg0
  z0 := Tryd.sizeOf0
  v0 := Tryd.zeroValue0
  t3 := Tryd.underlying3
  a3 := Tryd.isAgg3
  z3 := Tryd.sizeOf3
  v3 := Tryd.zeroValue3
  t4 := Tryd.underlying4
  a4 := Tryd.isAgg4
  z4 := Tryd.sizeOf4
  v4 := Tryd.zeroValue4
  t9 := Tryd.underlying9
  a9 := Tryd.isAgg9
  z9 := Tryd.sizeOf9
  v9 := Tryd.zeroValue9
  t20 := Tryd.underlying20
  a20 := Tryd.isAgg20
  z20 := Tryd.sizeOf20
  v20 := Tryd.zeroValue20
  t31 := Tryd.underlying90
  a31 := Tryd.isAgg90
  z31 := Tryd.sizeOf90
  v31 := Tryd.zeroValue90
  t37 := Tryd.underlying46
  a37 := Tryd.isAgg46
  z37 := Tryd.sizeOf46
  v37 := Tryd.zeroValue46
  t70 := Tryd.underlying45
  a70 := Tryd.isAgg45
  z70 := Tryd.sizeOf45
  v70 := Tryd.zeroValue45
  t72 := Tryd.underlying48
  a72 := Tryd.isAgg48
  z72 := Tryd.sizeOf48
  v72 := Tryd.zeroValue48
  t75 := Tryd.underlying50
  a75 := Tryd.isAgg50
  z75 := Tryd.sizeOf50
  v75 := Tryd.zeroValue50
  t76 := Tryd.underlying51
  a76 := Tryd.isAgg51
  z76 := Tryd.sizeOf51
  v76 := Tryd.zeroValue51
  t127 := Tryd.underlying65
  a127 := Tryd.isAgg65
  z127 := Tryd.sizeOf65
  v127 := Tryd.zeroValue65
  t164 := Tryd.underlying69
  a164 := Tryd.isAgg69
  z164 := Tryd.sizeOf69
  v164 := Tryd.zeroValue69 }
def Tryd.lays157_ren : Go.Shelf.Ren := ⟨fun | 157 => 68 | 229 => 82 | 199 => 83 | 261 => 87 | 311 => 90 | 312 => 91 | n => n, fun | 9 => 9 | 31 => 90 | 3 => 3 | 5 => 5 | 4 => 4 | 119 => 99 | 0 => 0 | 40 => 101 | 152 => 102 | 21 => 21 | 154 => 104 | 51 => 105 | 141 => 107 | 196 => 113 | 193 => 110 | 198 => 116 | 49 => 114 | 194 => 111 | 201 => 119 | 226 => 123 | 46 => 122 | 227 => 124 | n => n, fun | 0 => 1 | 6 => 2 | n => n⟩
theorem Tryd.lays157 : Go.Proofs.Lays.n157 Tryd.prog Tryd.lays157_ren := {
  mixed := by kernel_rfl
  f157 := Tryd.func68.trans (congrArg some (by kernel_rfl))
  f199 := Tryd.func83.trans (congrArg some (by kernel_rfl))
  f229 := Tryd.func82.trans (congrArg some (by kernel_rfl))
  f261 := Tryd.func87.trans (congrArg some (by kernel_rfl))
  f311 := Tryd.func90.trans (congrArg some (by kernel_rfl))
  f312 := Tryd.func91.trans (congrArg some (by kernel_rfl))
  t0 := Tryd.underlying0
  a0 := Tryd.isAgg0
  z0 := Tryd.sizeOf0
  v0 := Tryd.zeroValue0
  t3 := Tryd.underlying3
  a3 := Tryd.isAgg3
  z3 := Tryd.sizeOf3
  v3 := Tryd.zeroValue3
  t4 := Tryd.underlying4
  a4 := Tryd.isAgg4
  z4 := Tryd.sizeOf4
  v4 := Tryd.zeroValue4
  t5 := Tryd.underlying5
  a5 := Tryd.isAgg5
  z5 := Tryd.sizeOf5
  v5 := Tryd.zeroValue5
  t9 := Tryd.underlying9
  a9 := Tryd.isAgg9
  z9 := Tryd.sizeOf9
  v9 := Tryd.zeroValue9
  t21 := Tryd.underlying21
  a21 := Tryd.isAgg21
  z21 := Tryd.sizeOf21
  v21 := Tryd.zeroValue21
  t31 := Tryd.underlying90
  a31 := Tryd.isAgg90
  z31 := Tryd.sizeOf90
  v31 := Tryd.zeroValue90
  t40 := Tryd.underlying101
  a40 := Tryd.isAgg101
  z40 := Tryd.sizeOf101
  v40 := Tryd.zeroValue101
  t46 := Tryd.underlying122
  a46 := Tryd.isAgg122
  z46 := Tryd.sizeOf122
  v46 := Tryd.zeroValue122
  t49 := Tryd.underlying114
  a49 := Tryd.isAgg114
  z49 := Tryd.sizeOf114
  v49 := Tryd.zeroValue114
  t51 := Tryd.underlying105
  a51 := Tryd.isAgg105
  z51 := Tryd.sizeOf105
  v51 := Tryd.zeroValue105
  t119 := Tryd.underlying99
  a119 := Tryd.isAgg99
  z119 := Tryd.sizeOf99
  t141 := Tryd.underlying107
  a141 := Tryd.isAgg107
  z141 := Tryd.sizeOf107
  v141 := Tryd.zeroValue107
  t152 := Tryd.underlying102
  a152 := Tryd.isAgg102
  z152 := Tryd.sizeOf102
  v152 := Tryd.zeroValue102
  t154 := Tryd.underlying104
  a154 := Tryd.isAgg104
  z154 := Tryd.sizeOf104
  v154 := Tryd.zeroValue104
  t193 := Tryd.underlying110
  a193 := Tryd.isAgg110
  z193 := Tryd.sizeOf110
  v193 := Tryd.zeroValue110
  t194 := Tryd.underlying111
  a194 := Tryd.isAgg111
  z194 := Tryd.sizeOf111
  v194 := Tryd.zeroValue111
  t196 := Tryd.underlying113
  a196 := Tryd.isAgg113
  z196 := Tryd.sizeOf113
  v196 := Tryd.zeroValue113
  t198 := Tryd.underlying116
  a198 := Tryd.isAgg116
  z198 := Tryd.sizeOf116
  v198 := Tryd.zeroValue116
  t201 := Tryd.underlying119
  a201 := Tryd.isAgg119
  z201 := Tryd.sizeOf119
  v201 := Tryd.zeroValue119
  t226 := Tryd.underlying123
  a226 := Tryd.isAgg123
  z226 := Tryd.sizeOf123
  v226 := Tryd.zeroValue123
  t227 := Tryd.underlying124
  a227 := Tryd.isAgg124
  z227 := Tryd.sizeOf124
  v227 := Tryd.zeroValue124
  g0 := by kernel_rfl
  g6 := by kernel_rfl }
def Tryd.lays217_ren : Go.Shelf.Ren := ⟨fun | 217 => 49 | 266 => 63 | n => n, fun | 9 => 9 | 5 => 5 | 3 => 3 | n => n, fun | n => n⟩
theorem Tryd.lays217 : Go.Proofs.Lays.n217 Tryd.prog Tryd.lays217_ren := {
  mixed := by kernel_rfl
  f217 := Tryd.func49.trans (congrArg some (by kernel_rfl))
  f266 := Tryd.func63.trans (congrArg some (by kernel_rfl))
  t3 := Tryd.underlying3
  a3 := Tryd.isAgg3
  z3 := Tryd.sizeOf3
  v3 := Tryd.zeroValue3
  t5 := Tryd.underlying5
  a5 := Tryd.isAgg5
  z5 := Tryd.sizeOf5
  v5 := Tryd.zeroValue5
  t9 := Tryd.underlying9
  a9 := Tryd.isAgg9
  z9 := Tryd.sizeOf9
  v9 := Tryd.zeroValue9 }
end Go.Proofs
namespace Go.Proofs.YthmopindibdhnaaDoor.G
open Go.RowKit Go.Shelf Go.Maps
def wSum (xs : List (List UInt8)) : Nat := (xs.map fun x => x.length + 1).sum
theorem wSum_app (a b : List (List UInt8)) : wSum (a ++ b) = wSum a + wSum b := by simp [wSum]
theorem joinTail_len : ∀ r : List (List UInt8), (Lib.joinTail [32] r).length = wSum r
  | [] => rfl
  | x :: r => by
    have := joinTail_len r
    unfold Lib.joinTail at *
    unfold wSum at *
    simp only [List.map_cons, List.flatten_cons, List.length_append, List.length_cons, List.length_nil, List.sum_cons]
    omega
theorem join_len (xs : List (List UInt8)) : (Lib.join xs [32]).length ≤ wSum xs := by
  cases xs with
  | nil => rw [Lib.join_nil]; exact Nat.zero_le _
  | cons x r =>
    rw [Lib.join_cons, List.length_append, joinTail_len]
    unfold wSum
    simp only [List.map_cons, List.sum_cons]
    omega
theorem one_sum (cur : List UInt8) : wSum (if cur = [] then [] else [cur]) ≤ 2 * cur.length := by
  split
  · simp [wSum]
  · rename_i h
    have : 0 < cur.length := List.length_pos_iff.2 h
    simp [wSum]; omega
theorem fields_sum : ∀ (f : Nat) (cur l : List UInt8), wSum (Lib.fieldsGoD f cur l) ≤ 2 * (cur.length + l.length)
  | 0, cur, l => by rw [Lib.fieldsGoD]; have := one_sum cur; omega
  | f + 1, cur, l => by
    rw [Lib.fieldsGoD]
    split
    · have := one_sum cur; omega
    · split
      · have h1 := one_sum cur
        have h2 := fields_sum f [] (l.drop (Lib.decodeL l).2)
        rw [wSum_app]
        rw [List.length_drop] at h2
        simp only [List.length_nil] at h2
        omega
      · have h2 := fields_sum f (cur ++ l.take (Lib.decodeL l).2) (l.drop (Lib.decodeL l).2)
        rw [List.length_append, List.length_take, List.length_drop] at h2
        omega
theorem len_sum : ∀ xs : List (List UInt8), xs.length ≤ wSum xs
  | [] => Nat.zero_le _
  | x :: r => by have := len_sum r; unfold wSum at *; simp only [List.map_cons, List.sum_cons, List.length_cons]; omega
def wordsP (l : List UInt8) : List UInt8 := Lib.join (Lib.fieldsD l) [32]
theorem fieldsD_sum (l : List UInt8) : wSum (Lib.fieldsD l) ≤ 2 * l.length := by have := fields_sum (l.length + 1) [] l; unfold Lib.fieldsD; simpa using this
theorem wordsP_len (l : List UInt8) : (wordsP l).length ≤ 2 * l.length := Nat.le_trans (join_len _) (fieldsD_sum l)
/-- strings.Fields gives its fields, in this world -/
def FieldsAt (W : World) : Prop := ∀ l : List UInt8, l.length ≤ 100000 → Calls Tryd.prog 68 #[.string ⟨l.toArray⟩] W fun e w' => ∃ A, e = .returned (.slice (some ⟨A, 0, none⟩) ((Lib.fieldsD l).map fun x => (⟨x.toArray⟩ : ByteArray)).length ((Lib.fieldsD l).map fun x => (⟨x.toArray⟩ : ByteArray)).length) ∧ A < w'.heap.size ∧ (∀ (j : Nat) x, ((Lib.fieldsD l).map fun x => (⟨x.toArray⟩ : ByteArray))[j]? = some x → w'.cell? ⟨A, j, none⟩ = some (.string x)) ∧ Gr W w'
theorem extra156 : Builder.Extra Tryd.prog Tryd.lays156_ren where
  sizeBuilder := by kernel_rfl
  liesBuilder := by kernel_rfl
  t5 := Tryd.underlying5
  a5 := Tryd.isAgg5
  z5 := Tryd.sizeOf5
  v5 := Tryd.zeroValue5
  infoByte := by kernel_rfl
  cellsByte := by kernel_rfl
  sizeByte := by kernel_rfl
  neB5 := by decide
theorem join_w (A : Nat) (xs : List ByteArray) (W : World) (hc : ∀ (j : Nat) x, xs[j]? = some x → W.cell? ⟨A, j, none⟩ = some (.string x)) (hA : A < W.heap.size) (hn : xs.length ≤ 1000000) (hl : (Lib.join (xs.map (·.data.toList)) [32]).length ≤ 1000000) :
    Calls Tryd.prog 67 #[.slice (some ⟨A, 0, none⟩) xs.length xs.length, .string ⟨#[32]⟩] W fun e w' => e = .returned (.string ⟨(Lib.join (xs.map (·.data.toList)) [32]).toArray⟩) ∧ Gr W w' :=
  (Any.strings_Join Tryd.lays156 extra156 A 0 xs.length xs ⟨#[32]⟩ W (fun j x h => by rw [Nat.zero_add]; exact hc j x h) hA (by omega) (Nat.le_refl _) (by have : (⟨#[32]⟩ : ByteArray).data.toList = [32] := rfl; rw [this]; omega)).mono fun e w' ⟨he, hb⟩ => ⟨he, hb⟩
theorem fields_list (l : List UInt8) : ((Lib.fieldsD l).map fun x => (⟨x.toArray⟩ : ByteArray)).map (·.data.toList) = Lib.fieldsD l := by
  rw [List.map_map]
  have : ((fun x : ByteArray => x.data.toList) ∘ fun x : List UInt8 => (⟨x.toArray⟩ : ByteArray)) = id := rfl
  rw [this, List.map_id]
theorem join_f (A : Nat) (l : List UInt8) (h : l.length ≤ 100000) (W : World) (hc : ∀ (j : Nat) x, ((Lib.fieldsD l).map fun x => (⟨x.toArray⟩ : ByteArray))[j]? = some x → W.cell? ⟨A, j, none⟩ = some (.string x)) (hA : A < W.heap.size) :
    Calls Tryd.prog 67 #[.slice (some ⟨A, 0, none⟩) ((Lib.fieldsD l).map fun x => (⟨x.toArray⟩ : ByteArray)).length ((Lib.fieldsD l).map fun x => (⟨x.toArray⟩ : ByteArray)).length, .string ⟨#[32]⟩] W fun e w' => e = .returned (.string ⟨(wordsP l).toArray⟩) ∧ Gr W w' := by
  have h1 := len_sum (Lib.fieldsD l)
  have h2 := fieldsD_sum l
  have h3 := wordsP_len l
  have := join_w A ((Lib.fieldsD l).map fun x => (⟨x.toArray⟩ : ByteArray)) W hc hA (by rw [List.length_map]; omega) (by rw [fields_list]; unfold wordsP at h3; omega)
  rw [fields_list] at this
  exact this
end Go.Proofs.YthmopindibdhnaaDoor.G
namespace Go.Proofs.YthmopindibdhnaaDoor.G
open Go.RowKit Go.Shelf Go.Maps
variable {w w' : World} {P : Nat} {M : GoMap} {s : ByteArray} {at_ en : Nat} {tm : Bool} {tv bv ov : Value} {o : UInt8}
set_option maxRecDepth 100000 in
set_option maxHeartbeats 2000000 in
theorem qtok_6 {Q fr : Nat} (h : Sc w P M s at_ en tm tv bv ov) (hq : Quo w Q P fr o) (hQP : Q ≠ P) (_hQM : Q ≠ M.blk) (hs : s.size ≤ 4000) (hJ : JOk s.data.toList M.J) (ha : at_ < s.data.toList.length) (hfr : fr < s.size) (hd : delimB o.toNat = true) {raw : List UInt8} {R : Src} (hX : partS o (partU o) 0 (rest s.data.toList M.J (at_ + 1)) = some (raw, R)) (hFA : ∀ W, Bt P Q w W → FieldsAt W) :
    Calls Tryd.prog 51 #[.pointer (some ⟨Q, 0, none⟩), .int .i64 6] w fun e w' => ∃ b, e = .returned (Tok.val ⟨6, 0, ⟨(wordsP (plL o raw)).toArray⟩, ⟨#[]⟩, ⟨#[]⟩, 0⟩) ∧ Sc w' P M s b en tm tv bv ov ∧ Bt P Q w w' ∧ R = rest s.data.toList M.J b ∧ at_ < b ∧ b ≤ s.data.toList.length := by
  have H := Lib.hid h
  have HQ := Lib.hid hq
  have h47 : s.size ≤ 140737488351232 := by omega
  have hat : (at_ : Int) + 1 ≤ 4000 := by rw [sizeL] at ha; omega
  have HPt := Lib.hid (fun (W : World) (hS : Sc W P M s (at_ + 1) en tm tv bv ov) (hq : Quo W Q P fr o) => part_ok hS hq hQP hs hJ (by omega) hfr hd hX)
  have HFA := Lib.hid hFA
  clear hX hJ ha hfr hd hFA
  have hP : P < w.heap.size := h.lt.1
  have hM : M.blk < w.heap.size := h.lt.2
  have hQ : Q < w.heap.size := (Array.getElem?_eq_some_iff.1 hq).1
  obtain ⟨a1, ha1⟩ : ∃ a1, a1 = at_ + 1 := ⟨_, rfl⟩
  have hw1 : IntKind.i64.wrap ((at_ : Int) + 1) = (a1 : Int) := by rw [IntKind.wrap_i64]; omega
  have hw2 : wrap64 ((at_ : Int) + 1) = (a1 : Int) := by simp only [wrap64]; omega
  have G0 : Gr w ((w.alloc (.cells #[.int .i64 0, .int .i64 0, .string ⟨#[]⟩, .string ⟨#[]⟩, .string ⟨#[]⟩, .int .i64 0] 32)).alloc (.cells #[.int .i64 6, .int .i64 0, .string ⟨#[]⟩, .string ⟨#[]⟩, .string ⟨#[]⟩, .int .i64 0] 32)) := ((Gr.refl w).alloc _).alloc _
  obtain ⟨c0, c1, c2, c3, c4, c5, c6, c7, cf⟩ := (h.gr G0).cells
  obtain ⟨q0, q1, q2⟩ := (hq.but (But.of_gr G0) hQP).cells
  rw [← ha1] at HPt
  have HA1 := Lib.hid ha1
  clear h hq ha1 G0
  go_enter Tryd.func51, Tryd.ntmps51
  go_wp2_with fail
  generalize hX : ((w.setCell ⟨P, 1, none⟩ (.int .i64 (a1 : Int))).alloc (.cells #[.int .i64 0, .int .i64 0, .string ⟨#[]⟩, .string ⟨#[]⟩, .string ⟨#[]⟩, .int .i64 0] 32)).alloc (.cells #[.int .i64 6, .int .i64 0, .string ⟨#[]⟩, .string ⟨#[]⟩, .string ⟨#[]⟩, .int .i64 0] 32) = X1
  have hsX : (w.setCell ⟨P, 1, none⟩ (.int .i64 (a1 : Int))).heap.size = w.heap.size := by simp [World.setCell]
  have GX : Gr (w.setCell ⟨P, 1, none⟩ (.int .i64 (a1 : Int))) X1 := by rw [← hX]; exact ((Gr.refl _).alloc _).alloc _
  have SS1 := Lib.hid ((H.out.setAt a1).gr GX)
  have BX := Lib.hid ((But.set (P := P) (w := w) 1 (.int .i64 (a1 : Int))).trans (But.of_gr GX))
  have QQ1 := Lib.hid (HQ.out.but BX.out hQP)
  have BB1 : Hid (Bt P Q w X1) := Lib.hid (Bt.of_but BX.out)
  have KR1 : Hid (X1.heap[w.heap.size]? = some (.cells #[.int .i64 0, .int .i64 0, .string ⟨#[]⟩, .string ⟨#[]⟩, .string ⟨#[]⟩, .int .i64 0] 32 (0, 0))) := Lib.hid (by
    rw [← hX, heap_alloc_old _ _ (by simp), ← hsX]; exact heap_alloc_new _ _)
  have KT1 : Hid (X1.heap[w.heap.size + 1]? = some (.cells #[.int .i64 6, .int .i64 0, .string ⟨#[]⟩, .string ⟨#[]⟩, .string ⟨#[]⟩, .int .i64 0] 32 (0, 0))) := Lib.hid (by
    rw [← hX]; have := heap_alloc_new ((w.setCell ⟨P, 1, none⟩ (.int .i64 (a1 : Int))).alloc (.cells #[.int .i64 0, .int .i64 0, .string ⟨#[]⟩, .string ⟨#[]⟩, .string ⟨#[]⟩, .int .i64 0] 32)) (.cells #[.int .i64 6, .int .i64 0, .string ⟨#[]⟩, .string ⟨#[]⟩, .string ⟨#[]⟩, .int .i64 0] 32); simpa using this)
  clear hX GX hsX c0 c1 c2 c3 c4 c5 c6 c7 cf q0 q1 q2 hw1 hw2 BX
  refine (HPt.out _ SS1.out QQ1.out).mono ?_
  rintro e2 w2 ⟨b1, rfl, hS, hb, hR, hab, hbl, hlen⟩
  have SS2 := Lib.hid hS
  have QQ2 := Lib.hid (QQ1.out.but hb hQP)
  have BB2 := Lib.hid (BB1.out.trans (Bt.of_but hb))
  have KR2 := Lib.hid ((hb.block _ (Array.getElem?_eq_some_iff.1 KR1.out).1 (by simp; omega)).trans KR1.out)
  have KT2 := Lib.hid ((hb.block _ (Array.getElem?_eq_some_iff.1 KT1.out).1 (by simp; omega)).trans KT1.out)
  clear hS hb SS1 QQ1 BB1 KR1 KT1 HPt
  have HR := Lib.hid hR
  have Hab := Lib.hid hab
  have Hbl := Lib.hid hbl
  have Hlen : Hid (raw.length ≤ 4000) := Lib.hid (by rw [sizeL] at hbl; omega)
  have Ha1 : Hid (at_ < b1) := Lib.hid (by have := HA1.out; omega)
  clear hR hab hbl hlen
  have HT := Lib.hid (fun w => plain_l raw o (by have := Hlen.out; omega) w)
  have HPl : Hid ((plL o raw).length ≤ 8000) := Lib.hid (by have := Hlen.out; have := plL_len o raw; omega)
  obtain ⟨q0, q1, q2⟩ := Quo.cells QQ2.out
  go_wp2_with fail
  refine (HT.out _).mono ?_
  rintro e3 w3 ⟨rfl, g⟩
  have SS3 := Lib.hid (SS2.out.gr g)
  have QQ3 := Lib.hid (Quo_gr QQ2.out g)
  have BB3 := Lib.hid (BB2.out.trans (Bt.of_gr g))
  have KR3 := Lib.hid ((g.block _ (Array.getElem?_eq_some_iff.1 KR2.out).1).trans KR2.out)
  have KT3 := Lib.hid ((g.block _ (Array.getElem?_eq_some_iff.1 KT2.out).1).trans KT2.out)
  clear g SS2 QQ2 BB2 KR2 KT2 HT q0 q1 q2
  have HFd := Lib.hid ((HFA.out _ BB3.out) (plL o raw) (by have := HPl.out; omega))
  go_wp2_with fail
  refine (HFd.out).mono ?_
  rintro e4 w4 ⟨A, rfl, hA, hAc, g⟩
  have SS4 := Lib.hid (SS3.out.gr g)
  have QQ4 := Lib.hid (Quo_gr QQ3.out g)
  have BB4 := Lib.hid (BB3.out.trans (Bt.of_gr g))
  have KR4 := Lib.hid ((g.block _ (Array.getElem?_eq_some_iff.1 KR3.out).1).trans KR3.out)
  have KT4 := Lib.hid ((g.block _ (Array.getElem?_eq_some_iff.1 KT3.out).1).trans KT3.out)
  have HJn := Lib.hid (join_f A (plL o raw) (by have := HPl.out; omega) w4 hAc hA)
  clear g SS3 QQ3 BB3 KR3 KT3 HFd hA hAc
  generalize ((Lib.fieldsD (plL o raw)).map fun x => (⟨x.toArray⟩ : ByteArray)).length = nn at *
  go_wp2_with fail
  refine (HJn.out).mono ?_
  rintro e5 w5 ⟨rfl, g⟩
  have SS5 := Lib.hid (SS4.out.gr g)
  have QQ5 := Lib.hid (Quo_gr QQ4.out g)
  have BB5 := Lib.hid (BB4.out.trans (Bt.of_gr g))
  have KR5 := Lib.hid ((g.block _ (Array.getElem?_eq_some_iff.1 KR4.out).1).trans KR4.out)
  have KT5 := Lib.hid ((g.block _ (Array.getElem?_eq_some_iff.1 KT4.out).1).trans KT4.out)
  clear g SS4 QQ4 BB4 KR4 KT4 HJn
  have k2 : w5.cell? ⟨w.heap.size + 1, 2, none⟩ = some (.string ⟨#[]⟩) := by rw [(cellsOf KT5.out).1]; rfl
  have kf : ∀ j, w5.frozen? ⟨w.heap.size + 1, j, none⟩ = false := (cellsOf KT5.out).2
  have BS : But (w.heap.size + 1) w5 (w5.setCell ⟨w.heap.size + 1, 2, none⟩ (.string ⟨(wordsP (plL o raw)).toArray⟩)) := But.set 2 _
  have SS6 := Lib.hid (SS5.out.but BS (by omega) (by omega))
  have QQ6 := Lib.hid (Quo_any QQ5.out BS (by omega))
  have BB6 := Lib.hid (BB5.out.late (by omega) BS)
  have KR6 := Lib.hid ((BS.block _ (Array.getElem?_eq_some_iff.1 KR5.out).1 (by simp)).trans KR5.out)
  have KT6 : Hid ((w5.setCell ⟨w.heap.size + 1, 2, none⟩ (.string ⟨(wordsP (plL o raw)).toArray⟩)).heap[w.heap.size + 1]? = some (.cells #[.int .i64 6, .int .i64 0, .string ⟨(wordsP (plL o raw)).toArray⟩, .string ⟨#[]⟩, .string ⟨#[]⟩, .int .i64 0] 32 (0, 0))) := Lib.hid (by
    have := KT5.out
    simp [World.setCell, Array.getElem?_modify, this])
  clear BS SS5 QQ5 BB5 KR5 KT5
  go_wp2_with (first | (refine wpList_load_row rfl 32 (.tmp 5) rfl (w.heap.size + 1) rfl 32 #[.int .i64 6, .int .i64 0, .string ⟨(wordsP (plL o raw)).toArray⟩, .string ⟨#[]⟩, .string ⟨#[]⟩, .int .i64 0] (0, 0) _ KT6.out Tryd.underlying32 rfl (by rw [tokInfo]; rfl) ?_) | (refine wpList_store_tok rfl (.tmp 4) (.tmp 98) rfl (t := ⟨6, 0, ⟨(wordsP (plL o raw)).toArray⟩, ⟨#[]⟩, ⟨#[]⟩, 0⟩) rfl rfl KR6.out rfl ?_))
  intro W7 hb7 hk7
  have B7 := Lib.hid hb7
  have K7 := Lib.hid hk7
  clear hb7 hk7
  go_wp2_with fail
  refine bodyPost_ret (results_tok rfl rfl K7.out) rfl ?_
  exact ⟨b1, rfl, SS6.out.but B7.out (by omega) (by omega), BB6.out.late (Nat.le_refl _) B7.out, HR.out, Ha1.out, Hbl.out⟩
end Go.Proofs.YthmopindibdhnaaDoor.G
namespace Go.Proofs.YthmopindibdhnaaDoor.G
open Go.RowKit Go.Shelf Go.Maps
variable {w : World} {P : Nat} {M : GoMap} {s : ByteArray} {at_ en : Nat} {tm : Bool} {tv bv ov : Value} {o e : UInt8} {f m : Nat}
set_option maxRecDepth 100000 in
set_option maxHeartbeats 1000000 in
theorem quote_no (h : Sc w P M s at_ en tm tv bv ov) (hat : at_ ≤ s.size) (hs : s.size ≤ 140737488351232) (hq : quoteL (s.data.toList.drop at_) = none) :
    Calls Tryd.prog 39 #[.pointer (some ⟨P, 0, none⟩)] w fun e w' => e = .returned (.tuple #[tok0.val, .bool false]) ∧ Sc w' P M s at_ en tm tv bv ov ∧ But P w w' := by
  have H := Lib.hid h
  have HQ := Lib.hid (fun w => quoteKind_p (s.extract at_ s.size) (by simp [ByteArray.size_extract]; omega) w)
  rw [dropE, hq, show qkV none = .tuple #[.int .i64 0, .int .i64 0, .bool false] from rfl] at HQ
  have b0 : (at_ : Int) ≤ (s.size : Int) := by omega
  have hP : P < w.heap.size := h.lt.1
  have hM : M.blk < w.heap.size := h.lt.2
  clear h hq
  go_enter Tryd.func39, Tryd.ntmps39
  go_wp2_with fail
  generalize hW : w.alloc (.cells #[.int .i64 0, .int .i64 0, .string ⟨#[]⟩, .string ⟨#[]⟩, .string ⟨#[]⟩, .int .i64 0] 32) = W1
  have G1 : Hid (Gr w W1) := Lib.hid (by rw [← hW]; exact (Gr.refl w).alloc _)
  have K1 : Hid (W1.heap[w.heap.size]? = some (.cells #[.int .i64 0, .int .i64 0, .string ⟨#[]⟩, .string ⟨#[]⟩, .string ⟨#[]⟩, .int .i64 0] 32 (0, 0))) := Lib.hid (by rw [← hW]; exact heap_alloc_new w _)
  clear hW
  obtain ⟨c0, c1, c2, c3, c4, c5, c6, c7, cf⟩ := (H.out.gr G1.out).cells
  go_quiet ((go_at_call 50; exact quiet_at (HQ.out _)))
  clear c0 c1 c2 c3 c4 c5 c6 c7 cf
  go_wp2_with (refine wpList_store_tok rfl (.tmp 2) (.tmp 24) rfl (t := tok0) rfl rfl K1.out rfl ?_)
  intro W3 hb3 hk3
  have B3 := Lib.hid hb3
  have K3 := Lib.hid hk3
  clear hb3 hk3
  go_wp2_with fail
  refine bodyPost_ret (results_tokB rfl rfl K3.out rfl) rfl ?_
  exact ⟨rfl, (H.out.gr (G1.out.drewN _)).but B3.out (by omega) (by omega), (But.of_gr (G1.out.drewN _)).late (Nat.le_refl _) B3.out⟩
set_option maxRecDepth 100000 in
set_option maxHeartbeats 1000000 in
theorem quote_bad {o : UInt8} (h : Sc w P M s at_ en tm tv bv ov) (hat : at_ ≤ s.size) (hs : s.size ≤ 4000) (k : Int) (n : Nat) (hq : quoteL (s.data.toList.drop at_) = some (k, n)) (ho : s.data.toList[at_ + n]? = some o)
    (HT : ∀ (W : World) (Q : Nat), Sc W P M s (at_ + n) en tm tv bv ov → Quo W Q P at_ o → Q ≠ P → Q ≠ M.blk → w.heap.size ≤ Q → But P w W → Calls Tryd.prog 51 #[.pointer (some ⟨Q, 0, none⟩), .int .i64 k] W fun e w' => Bad s e ∧ Bt P Q W w') :
    Calls Tryd.prog 39 #[.pointer (some ⟨P, 0, none⟩)] w fun e w' => Bad s e ∧ But P w w' := by
  have H := Lib.hid h
  have HQ := Lib.hid (fun w => quoteKind_p (s.extract at_ s.size) (by simp [ByteArray.size_extract]; omega) w)
  rw [dropE, hq, show qkV (some (k, n)) = .tuple #[.int .i64 k, .int .i64 n, .bool true] from rfl] at HQ
  obtain ⟨a, ha⟩ : ∃ a, a = at_ + n := ⟨_, rfl⟩
  rw [← ha] at ho HT
  have hL : a < s.data.toList.length := (List.getElem?_eq_some_iff.1 ho).1
  have has : a < s.size := by rw [sizeL] at hL; exact hL
  have ea : s[a] = o := by rw [byteE s a has hL]; exact (List.getElem?_eq_some_iff.1 ho).2
  have HT := Lib.hid HT
  have b0 : (at_ : Int) ≤ (s.size : Int) := by omega
  have ha' : (at_ : Int) + (n : Int) = (a : Int) := by omega
  have hwa : IntKind.i64.wrap (a : Int) = (a : Int) := by rw [IntKind.wrap_i64]; omega
  have b1 : (a : Int) < (s.size : Int) := by omega
  have hP : P < w.heap.size := h.lt.1
  have hM : M.blk < w.heap.size := h.lt.2
  have Ha := Lib.hid ha
  clear h hq ho hL ha
  go_enter Tryd.func39, Tryd.ntmps39
  go_wp2_with fail
  generalize hW : w.alloc (.cells #[.int .i64 0, .int .i64 0, .string ⟨#[]⟩, .string ⟨#[]⟩, .string ⟨#[]⟩, .int .i64 0] 32) = W1
  have G1 : Hid (Gr w W1) := Lib.hid (by rw [← hW]; exact (Gr.refl w).alloc _)
  have K1 : Hid (W1.heap[w.heap.size]? = some (.cells #[.int .i64 0, .int .i64 0, .string ⟨#[]⟩, .string ⟨#[]⟩, .string ⟨#[]⟩, .int .i64 0] 32 (0, 0))) := Lib.hid (by rw [← hW]; exact heap_alloc_new w _)
  clear hW
  obtain ⟨c0, c1, c2, c3, c4, c5, c6, c7, cf⟩ := (H.out.gr G1.out).cells
  go_quiet ((go_at_call 50; exact quiet_at (HQ.out _)))
  clear c0 c1 c2 c3 c4 c5 c6 c7 cf
  go_wp2_with fail
  obtain ⟨W2, hW2⟩ : ∃ W2, W2 = W1.drewN nq := ⟨_, rfl⟩
  rw [← hW2]
  have G2 : Hid (Gr w W2) := Lib.hid (by rw [hW2]; exact G1.out.drewN _)
  have K2 : Hid (W2.heap[w.heap.size]? = some (.cells #[.int .i64 0, .int .i64 0, .string ⟨#[]⟩, .string ⟨#[]⟩, .string ⟨#[]⟩, .int .i64 0] 32 (0, 0))) := Lib.hid (by rw [hW2]; exact K1.out)
  have hW2n : w.heap.size < W2.heap.size := (Array.getElem?_eq_some_iff.1 K2.out).1
  clear hW2 K1 G1
  obtain ⟨c0, c1, c2, c3, c4, c5, c6, c7, cf⟩ := (H.out.gr G2.out).cells
  obtain ⟨d0, d1, _, _, _, _, _, _, _⟩ := (H.out.gr (G2.out.alloc (.cells #[.pointer none, .int .i64 0, .int .u8 0] 79))).cells
  go_big_region
  clear c0 c1 c2 c3 c4 c5 c6 c7 cf d0 d1
  obtain ⟨X, hX⟩ : ∃ X, X = (W2.alloc (.cells #[.pointer (some ⟨P, 0, none⟩), .int .i64 (at_ : Int), .int .u8 (o.toNat : Int)] 79)).drew := ⟨_, rfl⟩
  rw [← hX]
  have GX : Hid (Gr W2 X) := Lib.hid (by rw [hX]; exact ((Gr.refl W2).alloc _).drew)
  have QX : Hid (Quo X W2.heap.size P at_ o) := Lib.hid (by rw [hX]; exact heap_alloc_new W2 _)
  have KX := Lib.hid ((GX.out.block _ (Array.getElem?_eq_some_iff.1 K2.out).1).trans K2.out)
  have SX := Lib.hid ((H.out.gr G2.out).gr GX.out)
  have BX := Lib.hid (But.of_gr (P := P) (Gr.trans G2.out GX.out))
  clear hX K2 GX
  obtain ⟨c0, c1, c2, c3, c4, c5, c6, c7, cf⟩ := SX.out.cells
  go_wp2_with fail
  have BS : But P X (X.setCell ⟨P, 1, none⟩ (.int .i64 (a : Int))) := But.set 1 _
  have S3 := Lib.hid (SX.out.setAt a)
  have B3 := Lib.hid (BX.out.trans BS)
  have Q3 := Lib.hid (QX.out.but BS (by omega))
  have K3 := Lib.hid ((BS.block _ (Array.getElem?_eq_some_iff.1 KX.out).1 (by simp; omega)).trans KX.out)
  clear BS SX BX QX KX c0 c1 c2 c3 c4 c5 c6 c7 cf
  refine (HT.out _ _ S3.out Q3.out (by omega) (by omega) (by omega) B3.out).mono ?_
  rintro e4 w4 ⟨⟨q, hq, rfl⟩, hb4⟩
  go_wp2_with fail
  exact ⟨rfl, ⟨q, hq, rfl⟩, Bt.but B3.out (by omega) hb4⟩
set_option maxRecDepth 100000 in
set_option maxHeartbeats 1000000 in
theorem quote_ok {o : UInt8} (h : Sc w P M s at_ en tm tv bv ov) (hat : at_ ≤ s.size) (hs : s.size ≤ 4000) (k : Int) (n : Nat) (hq : quoteL (s.data.toList.drop at_) = some (k, n)) (ho : s.data.toList[at_ + n]? = some o) (tk : Tok) (R2 : Src)
    (HT : ∀ (W : World) (Q : Nat), Sc W P M s (at_ + n) en tm tv bv ov → Quo W Q P at_ o → Q ≠ P → Q ≠ M.blk → w.heap.size ≤ Q → But P w W → Calls Tryd.prog 51 #[.pointer (some ⟨Q, 0, none⟩), .int .i64 k] W fun e w' => ∃ b, e = .returned tk.val ∧ Sc w' P M s b en tm tv bv ov ∧ Bt P Q W w' ∧ R2 = rest s.data.toList M.J b ∧ at_ + n < b ∧ b ≤ s.data.toList.length) :
    Calls Tryd.prog 39 #[.pointer (some ⟨P, 0, none⟩)] w fun e w' => ∃ b, e = .returned (.tuple #[tk.val, .bool true]) ∧ Sc w' P M s b en tm tv bv ov ∧ But P w w' ∧ R2 = rest s.data.toList M.J b ∧ at_ < b ∧ b ≤ s.data.toList.length := by
  have H := Lib.hid h
  have HQ := Lib.hid (fun w => quoteKind_p (s.extract at_ s.size) (by simp [ByteArray.size_extract]; omega) w)
  rw [dropE, hq, show qkV (some (k, n)) = .tuple #[.int .i64 k, .int .i64 n, .bool true] from rfl] at HQ
  obtain ⟨a, ha⟩ : ∃ a, a = at_ + n := ⟨_, rfl⟩
  rw [← ha] at ho HT
  have hL : a < s.data.toList.length := (List.getElem?_eq_some_iff.1 ho).1
  have has : a < s.size := by rw [sizeL] at hL; exact hL
  have ea : s[a] = o := by rw [byteE s a has hL]; exact (List.getElem?_eq_some_iff.1 ho).2
  have HT := Lib.hid HT
  have b0 : (at_ : Int) ≤ (s.size : Int) := by omega
  have ha' : (at_ : Int) + (n : Int) = (a : Int) := by omega
  have hwa : IntKind.i64.wrap (a : Int) = (a : Int) := by rw [IntKind.wrap_i64]; omega
  have b1 : (a : Int) < (s.size : Int) := by omega
  have hP : P < w.heap.size := h.lt.1
  have hM : M.blk < w.heap.size := h.lt.2
  have Ha := Lib.hid ha
  clear h hq ho hL ha
  go_enter Tryd.func39, Tryd.ntmps39
  go_wp2_with fail
  generalize hW : w.alloc (.cells #[.int .i64 0, .int .i64 0, .string ⟨#[]⟩, .string ⟨#[]⟩, .string ⟨#[]⟩, .int .i64 0] 32) = W1
  have G1 : Hid (Gr w W1) := Lib.hid (by rw [← hW]; exact (Gr.refl w).alloc _)
  have K1 : Hid (W1.heap[w.heap.size]? = some (.cells #[.int .i64 0, .int .i64 0, .string ⟨#[]⟩, .string ⟨#[]⟩, .string ⟨#[]⟩, .int .i64 0] 32 (0, 0))) := Lib.hid (by rw [← hW]; exact heap_alloc_new w _)
  clear hW
  obtain ⟨c0, c1, c2, c3, c4, c5, c6, c7, cf⟩ := (H.out.gr G1.out).cells
  go_quiet ((go_at_call 50; exact quiet_at (HQ.out _)))
  clear c0 c1 c2 c3 c4 c5 c6 c7 cf
  go_wp2_with fail
  obtain ⟨W2, hW2⟩ : ∃ W2, W2 = W1.drewN nq := ⟨_, rfl⟩
  rw [← hW2]
  have G2 : Hid (Gr w W2) := Lib.hid (by rw [hW2]; exact G1.out.drewN _)
  have K2 : Hid (W2.heap[w.heap.size]? = some (.cells #[.int .i64 0, .int .i64 0, .string ⟨#[]⟩, .string ⟨#[]⟩, .string ⟨#[]⟩, .int .i64 0] 32 (0, 0))) := Lib.hid (by rw [hW2]; exact K1.out)
  have hW2n : w.heap.size < W2.heap.size := (Array.getElem?_eq_some_iff.1 K2.out).1
  clear hW2 K1 G1
  obtain ⟨c0, c1, c2, c3, c4, c5, c6, c7, cf⟩ := (H.out.gr G2.out).cells
  obtain ⟨d0, d1, _, _, _, _, _, _, _⟩ := (H.out.gr (G2.out.alloc (.cells #[.pointer none, .int .i64 0, .int .u8 0] 79))).cells
  go_big_region
  clear c0 c1 c2 c3 c4 c5 c6 c7 cf d0 d1
  obtain ⟨X, hX⟩ : ∃ X, X = (W2.alloc (.cells #[.pointer (some ⟨P, 0, none⟩), .int .i64 (at_ : Int), .int .u8 (o.toNat : Int)] 79)).drew := ⟨_, rfl⟩
  rw [← hX]
  have GX : Hid (Gr W2 X) := Lib.hid (by rw [hX]; exact ((Gr.refl W2).alloc _).drew)
  have QX : Hid (Quo X W2.heap.size P at_ o) := Lib.hid (by rw [hX]; exact heap_alloc_new W2 _)
  have KX := Lib.hid ((GX.out.block _ (Array.getElem?_eq_some_iff.1 K2.out).1).trans K2.out)
  have SX := Lib.hid ((H.out.gr G2.out).gr GX.out)
  have BX := Lib.hid (But.of_gr (P := P) (Gr.trans G2.out GX.out))
  clear hX K2 GX
  obtain ⟨c0, c1, c2, c3, c4, c5, c6, c7, cf⟩ := SX.out.cells
  go_wp2_with fail
  have BS : But P X (X.setCell ⟨P, 1, none⟩ (.int .i64 (a : Int))) := But.set 1 _
  have S3 := Lib.hid (SX.out.setAt a)
  have B3 := Lib.hid (BX.out.trans BS)
  have Q3 := Lib.hid (QX.out.but BS (by omega))
  have K3 := Lib.hid ((BS.block _ (Array.getElem?_eq_some_iff.1 KX.out).1 (by simp; omega)).trans KX.out)
  clear BS SX BX QX KX c0 c1 c2 c3 c4 c5 c6 c7 cf
  refine (HT.out _ _ S3.out Q3.out (by omega) (by omega) (by omega) B3.out).mono ?_
  rintro e4 w4 ⟨b, rfl, hS4, hb4, hR4, hab4, hbl4⟩
  have S4 := Lib.hid hS4
  have B4 := Lib.hid (Bt.but B3.out (by omega) hb4)
  have K4 := Lib.hid ((hb4.block _ (Array.getElem?_eq_some_iff.1 K3.out).1 (by omega) (by omega)).trans K3.out)
  have HR := Lib.hid hR4
  have Hab := Lib.hid hab4
  have Hbl := Lib.hid hbl4
  clear hS4 hb4 S3 B3 Q3 K3 HT hR4 hab4 hbl4
  have hv : tk.val = .agg #[.int .i64 tk.kind, .int .i64 tk.place, .string tk.text, .string tk.repl, .string tk.more, .int .i64 tk.opn] := rfl
  go_wp2_with (refine wpList_store_tok rfl (.tmp 2) (.tmp 51) rfl (t := tk) rfl rfl K4.out rfl ?_)
  intro W5 hb5 hk5
  have B5 := Lib.hid hb5
  have K5 := Lib.hid hk5
  clear hb5 hk5
  go_wp2_with fail
  refine bodyPost_ret (results_tokB rfl rfl K5.out rfl) rfl ?_
  have := Ha.out
  have := Hab.out
  exact ⟨b, rfl, S4.out.but B5.out (by omega) (by omega), B4.out.late (Nat.le_refl _) B5.out, HR.out, by omega, Hbl.out⟩
end Go.Proofs.YthmopindibdhnaaDoor.G
namespace Go.Proofs.YthmopindibdhnaaDoor.G
open Go.RowKit Go.Shelf Go.Maps
def splitC (c : UInt8) : List UInt8 → Option (List UInt8 × List UInt8)
  | [] => none
  | x :: r => if x = c then some ([], r) else (splitC c r).map fun p => (x :: p.1, p.2)
theorem splitC_some {c : UInt8} : ∀ {l a b : List UInt8}, splitC c l = some (a, b) → l = a ++ c :: b ∧ c ∉ a
  | [], a, b, h => by cases h
  | x :: r, a, b, h => by
    rw [splitC] at h
    by_cases hx : x = c
    · rw [if_pos hx] at h
      injection h with h; injection h with h1 h2
      subst h1 h2 hx
      exact ⟨rfl, by simp⟩
    · rw [if_neg hx] at h
      cases hs : splitC c r with
      | none => rw [hs] at h; cases h
      | some p =>
        rw [hs] at h
        injection h with h; injection h with h1 h2
        obtain ⟨e, n⟩ := splitC_some (a := p.1) (b := p.2) hs
        subst h1 h2
        refine ⟨by rw [e]; rfl, ?_⟩
        rw [List.mem_cons, not_or]
        exact ⟨fun h => hx h.symm, n⟩
def splitI (c : UInt8) (l : List UInt8) : Int := match splitC c l with
  | none => -1
  | some p => (p.1.length : Int)
theorem idx_split (c : UInt8) (l : List UInt8) : Lib.indexByte l c = splitI c l := by
  unfold splitI
  induction l with
  | nil => rfl
  | cons x l ih =>
    unfold Lib.indexByte
    rw [splitC, ih]
    by_cases h : x = c
    · rw [if_pos h, if_pos (by simpa using h)]; rfl
    · rw [if_neg h, if_neg (by simpa using h)]
      cases hs : splitC c l with
      | none => rfl
      | some p =>
        show (if ((p.1.length : Int) == -1) = true then (-1 : Int) else (p.1.length : Int) + 1) = ((x :: p.1).length : Int)
        rw [if_neg (by simp), List.length_cons]; omega
theorem splitC_pos {c : UInt8} {l a b : List UInt8} (h : splitC c l = some (a, b)) : a = l.take a.length ∧ b = l.drop (a.length + 1) ∧ a.length < l.length := by
  obtain ⟨rfl, _⟩ := splitC_some h
  refine ⟨by rw [List.take_left], ?_, by simp⟩
  rw [← List.drop_drop, List.drop_left]; rfl
theorem takeB (s : ByteArray) (k : Nat) : (s.extract 0 k).data.toList = s.data.toList.take k := by simp
theorem lindex_any (s sep : ByteArray) (c : UInt8) (hc : sep.data.toList = [c]) (w : World) : Calls Tryd.prog 88 #[.string s, .string sep] w fun e w' => e = .returned (.int .i64 (splitI c s.data.toList)) ∧ w = w' := by
  have h1 : sep.size = 1 := by rw [← sizeL, hc]; rfl
  have h0 : 0 < sep.size := by omega
  have hg : sep[0]'h0 = c := by
    have := getL sep 0 h0
    rw [hc] at this
    exact (Option.some.inj this).symm
  have HX : Hid (∀ w, Calls Tryd.prog 49 #[.string s, .int .u8 ((sep[0]'h0).toNat : Int)] w fun e w' => e = .returned (.int .i64 (splitI c s.data.toList)) ∧ w = w') := Lib.hid (fun w => by
    have g := Any.stringslite_IndexByte Tryd.lays217 s ((sep[0]'h0).toNat : Int) w
    change Calls Tryd.prog 49 _ _ _ at g
    refine g.mono fun e w' ⟨he, hw⟩ => ⟨?_, hw.symm⟩
    rw [he, hg, ← idx_split]
    congr 3
    simp)
  have b0 : ((sep.size : Int) == 0) = false := beq_eq_false_iff_ne.2 (by omega)
  have b1 : ((sep.size : Int) == 1) = true := by rw [beq_iff_eq]; omega
  have hb : sep.size ≤ 1 := by omega
  have HQ : (sep.toList == s.toList) = true → Hid (splitI c s.data.toList = 0) := fun h => Lib.hid (by
    rw [beq_iff_eq, ByteArray.toList_eq, ByteArray.toList_eq] at h
    rw [← h, hc]
    unfold splitI
    rw [splitC, if_pos rfl]; rfl)
  clear h1 hg hc
  cases hq : (sep.toList == s.toList)
  · clear HQ
    go_enter Tryd.func88, Tryd.ntmps88
    go_wp2_with (go_at_call 49; refine (HX.out _).mono ?_; rintro e w1 ⟨rfl, rfl⟩)
    go_ret
    exact ⟨rfl, rfl⟩
  · have HZ := HQ hq
    clear HQ HX
    go_enter Tryd.func88, Tryd.ntmps88
    go_wp2
    go_ret
    exact ⟨by rw [HZ.out]; rfl, rfl⟩
theorem lcut_no (s sep : ByteArray) (c : UInt8) (hc : sep.data.toList = [c]) (h : splitC c s.data.toList = none) (w : World) :
    Calls Tryd.prog 85 #[.string s, .string sep] w fun e w' => e = .returned (.tuple #[.string s, .string ⟨#[]⟩, .bool false]) ∧ Gr w w' := by
  have H := Lib.hid (fun w => lindex_any s sep c hc w)
  rw [show splitI c s.data.toList = -1 by unfold splitI; rw [h]] at H
  clear h hc
  go_enter Tryd.func85, Tryd.ntmps85
  go_wp2_with (go_at_call 88; refine (H.out _).mono ?_; rintro e w1 ⟨rfl, rfl⟩)
  go_ret3
  exact ⟨rfl, Gr.refl w⟩
theorem lcut_yes (s sep : ByteArray) (c : UInt8) (a b : List UInt8) (hc : sep.data.toList = [c]) (h : splitC c s.data.toList = some (a, b)) (hs : s.size ≤ 140737488351232) (w : World) :
    Calls Tryd.prog 85 #[.string s, .string sep] w fun e w' => e = .returned (.tuple #[.string ⟨a.toArray⟩, .string ⟨b.toArray⟩, .bool true]) ∧ Gr w w' := by
  have H := Lib.hid (fun w => lindex_any s sep c hc w)
  obtain ⟨e1, e2, e3⟩ := splitC_pos h
  rw [sizeL] at e3
  rw [show splitI c s.data.toList = (a.length : Int) by unfold splitI; rw [h]] at H
  have h1 : sep.size = 1 := by rw [← sizeL, hc]; rfl
  have EA : Hid (s.extract 0 a.length = ⟨a.toArray⟩) := Lib.hid (barr_of (by rw [takeB]; exact e1.symm))
  have EB : Hid (s.extract (a.length + sep.size) s.size = ⟨b.toArray⟩) := Lib.hid (barr_of (by rw [h1, dropE]; exact e2.symm))
  have b1 : sep.size ≤ 1 := by omega
  have b2 : 1 ≤ sep.size := by omega
  clear e1 e2 h hc h1
  generalize a.length = k at *
  have c1 : (0 : Int) ≤ ↑k := by omega
  have c2 : (↑k : Int) ≤ ↑s.size := by omega
  have c3 : (0 : Int) ≤ ↑k + ↑sep.size := by omega
  have c4 : (↑k + ↑sep.size : Int) ≤ ↑s.size := by omega
  go_enter Tryd.func85, Tryd.ntmps85
  go_wp2_with (go_at_call 88; refine (H.out _).mono ?_; rintro e w1 ⟨rfl, rfl⟩)
  go_quiet (fail)
  go_wp2
  go_ret3
  exact ⟨by rw [← EA.out, ← EB.out]; rfl, Gr.drewN (Gr.refl _) _⟩
theorem cut_no (s sep : ByteArray) (c : UInt8) (hc : sep.data.toList = [c]) (h : splitC c s.data.toList = none) (w : World) :
    Calls Tryd.prog 73 #[.string s, .string sep] w fun e w' => e = .returned (.tuple #[.string s, .string ⟨#[]⟩, .bool false]) ∧ Gr w w' := by
  have H := Lib.hid (fun w => lcut_no s sep c hc h w)
  clear h hc
  go_enter Tryd.func73, Tryd.ntmps73
  go_wp2_with (go_at_call 85; refine (H.out _).mono ?_; rintro e w1 ⟨rfl, g1⟩)
  go_ret3
  exact ⟨rfl, g1⟩
theorem cut_yes (s sep : ByteArray) (c : UInt8) (a b : List UInt8) (hc : sep.data.toList = [c]) (h : splitC c s.data.toList = some (a, b)) (hs : s.size ≤ 140737488351232) (w : World) :
    Calls Tryd.prog 73 #[.string s, .string sep] w fun e w' => e = .returned (.tuple #[.string ⟨a.toArray⟩, .string ⟨b.toArray⟩, .bool true]) ∧ Gr w w' := by
  have H := Lib.hid (fun w => lcut_yes s sep c a b hc h hs w)
  clear h hc
  go_enter Tryd.func73, Tryd.ntmps73
  go_wp2_with (go_at_call 85; refine (H.out _).mono ?_; rintro e w1 ⟨rfl, g1⟩)
  go_ret3
  exact ⟨rfl, g1⟩
theorem cutp_any (s p : ByteArray) (w : World) : Calls Tryd.prog 52 #[.string s, .string p] w fun e w' => e = .returned (.tuple #[.string ⟨(Lib.trimPrefix s.data.toList p.data.toList).toArray⟩, .bool (Lib.hasPrefix s.data.toList p.data.toList)]) ∧ w = w' :=
  (Any.strings_CutPrefix Tryd.lays103 s p w).mono fun _ _ ⟨he, h⟩ => ⟨he, h.symm⟩
end Go.Proofs.YthmopindibdhnaaDoor.G
namespace Go.Proofs.YthmopindibdhnaaDoor
open Go.RowKit Go.Shelf
def isW (l : List UInt8) : Bool := !l.isEmpty && (decide (l.length ≤ 12) && wordN l == l.length)
theorem over_l (s : ByteArray) (w : World) : Calls Tryd.prog 4 #[.string s] w fun e w' => e = .returned (.bool (decide (16000 < (s.size : Int)))) ∧ w = w' := by
  go_enter Tryd.func4, Tryd.ntmps4
  go_wp2
  go_ret
  exact ⟨rfl, rfl⟩
theorem isWord_p (s : ByteArray) (hs : s.size ≤ 140737488351232) (w : World) : Calls Tryd.prog 54 #[.string s] w fun e w' => e = .returned (.bool (isW s.data.toList)) ∧ w = w' := by
  have HW := Lib.hid (fun w => word_p s hs w)
  by_cases h0 : s.data.toList = []
  · have E : isW s.data.toList = false := by rw [h0]; rfl
    have t0 : (s.toList == []) = true := by rw [ByteArray.toList_eq, h0]; rfl
    have t1 : (s.toList != []) = false := by rw [ByteArray.toList_eq, h0]; rfl
    rw [E]
    clear E h0 HW
    go_enter Tryd.func54, Tryd.ntmps54
    go_wp2
    go_ret
    exact ⟨rfl, rfl⟩
  · have t0 : (s.toList == []) = false := by rw [ByteArray.toList_eq]; simpa using h0
    have t1 : (s.toList != []) = true := by rw [ByteArray.toList_eq]; simpa using h0
    by_cases h12 : s.size ≤ 12
    · have g12 : (s.size : Int) ≤ 12 := by omega
      by_cases hw : wordN s.data.toList = s.data.toList.length
      · have E : isW s.data.toList = true := by
          have : s.data.toList.isEmpty = false := by simpa using h0
          rw [isW, this, hw, sizeL]; simp [h12]
        have t2 : ((wordN s.data.toList : Int) == (s.size : Int)) = true := by rw [hw, sizeL]; simp
        rw [E]
        generalize wordN s.data.toList = n at *
        clear E h0 hw h12
        go_enter Tryd.func54, Tryd.ntmps54
        go_wp2_with fail
        refine (HW.out _).mono ?_
        rintro e w1 ⟨rfl, rfl⟩
        go_wp2
        go_ret
        exact ⟨rfl, rfl⟩
      · have E : isW s.data.toList = false := by
          have : (wordN s.data.toList == s.data.toList.length) = false := by simpa using hw
          rw [isW, this]; simp
        have t2 : ((wordN s.data.toList : Int) == (s.size : Int)) = false := by rw [sizeL] at hw; simp; omega
        rw [E]
        generalize wordN s.data.toList = n at *
        clear E h0 hw h12
        go_enter Tryd.func54, Tryd.ntmps54
        go_wp2_with fail
        refine (HW.out _).mono ?_
        rintro e w1 ⟨rfl, rfl⟩
        go_wp2
        go_ret
        exact ⟨rfl, rfl⟩
    · have g12 : decide ((s.size : Int) ≤ 12) = false := by simp; omega
      have g13 : decide (s.size ≤ 12) = false := by simpa using h12
      have E : isW s.data.toList = false := by
        rw [isW, sizeL, g13]; simp
      rw [E]
      clear E h0 h12 HW
      go_enter Tryd.func54, Tryd.ntmps54
      go_wp2
      go_ret
      exact ⟨rfl, rfl⟩
end Go.Proofs.YthmopindibdhnaaDoor
