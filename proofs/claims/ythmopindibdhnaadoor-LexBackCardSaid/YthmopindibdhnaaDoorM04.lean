/- LEach LWs LFlag LQtok LQuo -/
import Derived.Test.YthmopindibdhnaaDoorM03
import Derived.BigRegion
namespace Go.Proofs.YthmopindibdhnaaDoor
open Go.RowKit Go.Shelf
/-- what a function makes of the pieces -/
def eachL (g : List UInt8 → List UInt8) : Nat → List UInt8 → List UInt8
  | 0, _ => []
  | f + 1, l => match l with
    | [] => []
    | c :: t => if c = 92 ∧ 1 < l.length then g (l.take 2) ++ eachL g f (l.drop 2) else g (l.take 1) ++ eachL g f t
theorem eachL_nil (g : List UInt8 → List UInt8) (f : Nat) : eachL g f [] = [] := by cases f <;> rfl
theorem eachL_two {g : List UInt8 → List UInt8} {f : Nat} {l : List UInt8} (h : 1 < l.length) (hc : l[0] = 92) : eachL g (f + 1) l = g (l.take 2) ++ eachL g f (l.drop 2) := by
  cases l with
  | nil => simp at h
  | cons c t => rw [eachL, if_pos ⟨hc, h⟩]
theorem eachL_one {g : List UInt8 → List UInt8} {f : Nat} {l : List UInt8} (h : 0 < l.length) (hc : ¬ (l[0] = 92 ∧ 1 < l.length)) : eachL g (f + 1) l = g (l.take 1) ++ eachL g f (l.drop 1) := by
  cases l with
  | nil => simp at h
  | cons c t => rw [eachL, if_neg (show ¬ (c = 92 ∧ 1 < (c :: t).length) from hc)]; rfl
def strLen : Value → Nat
  | .string r => r.size
  | _ => 0
/-- the closure K, with what it has caught, makes g of a text -/
def Piece (K : Nat) (cb : Array Value) (g : List UInt8 → List UInt8) : Prop := ∀ (p : ByteArray) (W : World), Calls Tryd.prog K (#[.string p] ++ cb) W fun e w' => ∃ q : ByteArray, q.data.toList = g p.data.toList ∧ e = .returned (.string q) ∧ Gr W w'
theorem u8_lit {x : UInt8} (h : x ≠ 92) : ((x.toNat : Int) == 92) = false := by
  simp only [beq_eq_false_iff_ne, ne_eq]
  intro e
  exact h (UInt8.toNat_inj.1 (by have : (92 : UInt8).toNat = 92 := rfl; omega))
theorem Gr.below' {a b c : World} (h : Gr a b) (k : Below a.heap.size b c) : Gr a c := Below.trans h k
theorem Bld.gr' {B : Nat} {l : List UInt8} {a b : World} (h : Bld B l a) (k : Gr a b) : Bld B l b := by
  have hk : ∀ i, B ≤ i → i < a.heap.size → b.heap[i]? = a.heap[i]? := fun i _ h2 => k.block i h2
  have hat : ∀ p, Lib.BuilderAtF 48 5 B B p (Lib.byteCells l) a → Lib.BuilderAtF 48 5 B B p (Lib.byteCells l) b := fun p ⟨h1, v, h2, h3, h4⟩ =>
    ⟨h1, v, by rw [hk B (Nat.le_refl _) (Array.getElem?_eq_some_iff.1 h2).1]; exact h2, ownsRowF_same h3 hk, h4⟩
  exact h.elim (fun x => .inl (hat _ x)) (fun x => .inr (hat _ x))
set_option maxRecDepth 100000 in
set_option maxHeartbeats 1000000 in
theorem each_ws (g : List UInt8 → List UInt8) (hg : ∀ p, (g p).length ≤ p.length) (hP : Piece 84 #[] g) (s : ByteArray) (hs : s.size ≤ 140737488351232) (w : World) :
    Calls Tryd.prog 74 #[.string s, .func (.func 84) #[] #[]] w fun e w' => ∃ q : ByteArray, q.data.toList = eachL g s.size s.data.toList ∧ e = .returned (.string q) ∧ Gr w w' := by
  have HP := Lib.hid hP
  have HG := Lib.hid hg
  obtain ⟨R, hR⟩ : ∃ R, R = eachL g s.size s.data.toList := ⟨_, rfl⟩
  rw [← hR]
  have HR : Hid (R = [] ++ eachL g s.size s.data.toList) := Lib.hid (by rw [hR]; rfl)
  clear hR hP hg
  go_enter Tryd.func74, Tryd.ntmps74
  go_wp2_with fail
  generalize hW : w.alloc (.cells #[.pointer none, .slice none 0 0] 48) = W1
  have G1 : Hid (Gr w W1) := Lib.hid (by rw [← hW]; exact (Gr.refl w).alloc _)
  have hBl : Hid (Bld w.heap.size [] W1) := Lib.hid (by rw [← hW]; exact bld_new w)
  have hsz1 : Hid (W1.heap.size = w.heap.size + 1) := Lib.hid (by rw [← hW]; simp)
  clear hW
  go_loopw [0, 6] (fun v _ wr => ∃ (r : ByteArray) (acc : List UInt8) (f : Nat), v = .string r ∧ r.size ≤ f ∧ acc.length + r.size ≤ s.size ∧ Bld w.heap.size acc wr ∧ Gr w wr ∧ w.heap.size + 1 ≤ wr.heap.size ∧ Hid (R = acc ++ eachL g f r.data.toList)) (fun v _ _ => strLen v)
  case atStart => exact ⟨s, [], s.size, rfl, Nat.le_refl _, by simp, hBl.out, G1.out, by rw [hsz1.out]; exact Nat.le_refl _, HR⟩
  case round =>
    obtain ⟨r, acc, f, rfl, hf, ha, hB, hG, hZ, hR⟩ := hrel
    clear HR hBl hsz1 G1
    have Bl := Lib.hid hB
    have Gg := Lib.hid hG
    have Z := Lib.hid hZ
    clear hB hG hZ
    by_cases h0 : 0 < r.size
    · have hc0 : (0 : Int) < (r.size : Int) := by omega
      have hL0 : 0 < r.data.toList.length := by rw [sizeL]; exact h0
      have e0 := byteE r 0 h0 hL0
      obtain ⟨f, rfl⟩ : ∃ f', f = f' + 1 := ⟨f - 1, by omega⟩
      by_cases h1 : r.data.toList[0] = 92 ∧ 1 < r.data.toList.length
      · have hE := Lib.hid (eachL_two (g := g) (f := f) h1.2 h1.1)
        have h92 : ((r.data.toList[0].toNat : Int) == 92) = true := by rw [h1.1]; rfl
        have h2 : 1 < r.size := by have := h1.2; rw [sizeL] at this; exact this
        have hc1 : (1 : Int) < (r.size : Int) := by omega
        have hc2 : (2 : Int) ≤ (r.size : Int) := by omega
        have hp := HP.out (r.extract 0 2)
        have hx2 : (r.extract 0 2).data.toList = r.data.toList.take 2 := by rw [extractE]; simp
        rw [hx2] at hp
        have hd2 : (r.extract 2 r.size).data.toList = r.data.toList.drop 2 := dropE r 2
        have hd2s : (r.extract 2 r.size).size = r.size - 2 := by simp [ByteArray.size_extract]
        have hgl := HG.out (r.data.toList.take 2)
        rw [List.length_take, sizeL] at hgl
        have HPp := Lib.hid hp
        have Hd := Lib.hid hd2
        have Hds := Lib.hid hd2s
        have Hgl := Lib.hid hgl
        generalize r.data.toList[0] = x at *
        clear h1 hp hx2 hd2 hd2s hgl h2
        go_wp2_with fail
        refine (HPp.out _).mono ?_
        rintro e1 w2 ⟨q, hq, rfl, g2⟩
        have G2 := Lib.hid (Gr.trans Gg.out g2)
        have B2 := Lib.hid (Bld.gr' Bl.out g2)
        have Z2 : Hid (w.heap.size + 1 ≤ w2.heap.size) := Lib.hid (Nat.le_trans Z.out g2.size)
        have Hq := Lib.hid hq
        have Hqs : Hid (q.size ≤ 2) := Lib.hid (by have h3 := Hgl.out; rw [← sizeL, hq]; omega)
        clear g2 Gg Bl Z hq HPp
        go_wp2_with fail
        refine (bld_string q B2.out (by have := Hqs.out; omega) (by have := Z2.out; omega)).mono ?_
        rintro e2 w3 ⟨rfl, hl3, hb3, _⟩
        have G3 := Lib.hid (Gr.below' G2.out hb3)
        have B3 := Lib.hid hl3
        have Z3 : Hid (w.heap.size + 1 ≤ w3.heap.size) := Lib.hid (Nat.le_trans Z2.out hb3.size)
        clear hl3 hb3 G2 B2 Z2
        go_wp2_with fail
        go_roundw
        case rel =>
          have e3 := Hqs.out
          have e4 := Hds.out
          exact ⟨r.extract 2 r.size, acc ++ q.data.toList, f, rfl, by omega, by rw [List.length_append, sizeL]; omega, B3.out, G3.out, Z3.out, Lib.hid (by rw [hR.out, hE.out, Hd.out, Hq.out, List.append_assoc])⟩
        case measure => have e4 := Hds.out; simp only [strLen]; omega
      · have hE := Lib.hid (eachL_one (g := g) (f := f) hL0 h1)
        have hc1 : (1 : Int) ≤ (r.size : Int) := by omega
        have hp := HP.out (r.extract 0 1)
        have hx2 : (r.extract 0 1).data.toList = r.data.toList.take 1 := by rw [extractE]; simp
        rw [hx2] at hp
        have hd2 : (r.extract 1 r.size).data.toList = r.data.toList.drop 1 := dropE r 1
        have hd2s : (r.extract 1 r.size).size = r.size - 1 := by simp [ByteArray.size_extract]
        have hgl := HG.out (r.data.toList.take 1)
        rw [List.length_take, sizeL] at hgl
        have HPp := Lib.hid hp
        have Hd := Lib.hid hd2
        have Hds := Lib.hid hd2s
        have Hgl := Lib.hid hgl
        have hcase : ((r.data.toList[0].toNat : Int) == 92) = false ∨ (((r.data.toList[0].toNat : Int) == 92) = true ∧ decide (1 < r.size) = false ∧ decide ((1 : Int) < (r.size : Int)) = false) := by
          by_cases h5 : r.data.toList[0] = 92
          · refine .inr ⟨by rw [h5]; rfl, ?_, ?_⟩
            · have : ¬ 1 < r.data.toList.length := fun h6 => h1 ⟨h5, h6⟩
              rw [sizeL] at this; simp; omega
            · have : ¬ 1 < r.data.toList.length := fun h6 => h1 ⟨h5, h6⟩
              rw [sizeL] at this; simp; omega
          · exact .inl (u8_lit h5)
        generalize r.data.toList[0] = x at *
        clear h1 hp hx2 hd2 hd2s hgl
        rcases hcase with h92 | ⟨h92, hlt, hlt'⟩
        · go_wp2_with fail
          refine (HPp.out _).mono ?_
          rintro e1 w2 ⟨q, hq, rfl, g2⟩
          have G2 := Lib.hid (Gr.trans Gg.out g2)
          have B2 := Lib.hid (Bld.gr' Bl.out g2)
          have Z2 : Hid (w.heap.size + 1 ≤ w2.heap.size) := Lib.hid (Nat.le_trans Z.out g2.size)
          have Hq := Lib.hid hq
          have Hqs : Hid (q.size ≤ 1) := Lib.hid (by have h3 := Hgl.out; rw [← sizeL, hq]; omega)
          clear g2 Gg Bl Z hq HPp
          go_wp2_with fail
          refine (bld_string q B2.out (by have := Hqs.out; omega) (by have := Z2.out; omega)).mono ?_
          rintro e2 w3 ⟨rfl, hl3, hb3, _⟩
          have G3 := Lib.hid (Gr.below' G2.out hb3)
          have B3 := Lib.hid hl3
          have Z3 : Hid (w.heap.size + 1 ≤ w3.heap.size) := Lib.hid (Nat.le_trans Z2.out hb3.size)
          clear hl3 hb3 G2 B2 Z2
          go_wp2_with fail
          go_roundw
          case rel =>
            have e3 := Hqs.out
            have e4 := Hds.out
            exact ⟨r.extract 1 r.size, acc ++ q.data.toList, f, rfl, by omega, by rw [List.length_append, sizeL]; omega, B3.out, G3.out, Z3.out, Lib.hid (by rw [hR.out, hE.out, Hd.out, Hq.out, List.append_assoc])⟩
          case measure => have e4 := Hds.out; simp only [strLen]; omega
        · go_wp2_with fail
          refine (HPp.out _).mono ?_
          rintro e1 w2 ⟨q, hq, rfl, g2⟩
          have G2 := Lib.hid (Gr.trans Gg.out g2)
          have B2 := Lib.hid (Bld.gr' Bl.out g2)
          have Z2 : Hid (w.heap.size + 1 ≤ w2.heap.size) := Lib.hid (Nat.le_trans Z.out g2.size)
          have Hq := Lib.hid hq
          have Hqs : Hid (q.size ≤ 1) := Lib.hid (by have h3 := Hgl.out; rw [← sizeL, hq]; omega)
          clear g2 Gg Bl Z hq HPp
          go_wp2_with fail
          refine (bld_string q B2.out (by have := Hqs.out; omega) (by have := Z2.out; omega)).mono ?_
          rintro e2 w3 ⟨rfl, hl3, hb3, _⟩
          have G3 := Lib.hid (Gr.below' G2.out hb3)
          have B3 := Lib.hid hl3
          have Z3 : Hid (w.heap.size + 1 ≤ w3.heap.size) := Lib.hid (Nat.le_trans Z2.out hb3.size)
          clear hl3 hb3 G2 B2 Z2
          go_wp2_with fail
          go_roundw
          case rel =>
            have e3 := Hqs.out
            have e4 := Hds.out
            exact ⟨r.extract 1 r.size, acc ++ q.data.toList, f, rfl, by omega, by rw [List.length_append, sizeL]; omega, B3.out, G3.out, Z3.out, Lib.hid (by rw [hR.out, hE.out, Hd.out, Hq.out, List.append_assoc])⟩
          case measure => have e4 := Hds.out; simp only [strLen]; omega
    · have E : Hid (R = acc) := Lib.hid (by rw [hR.out, show r.data.toList = [] from List.length_eq_zero_iff.1 (by rw [sizeL]; omega), eachL_nil, List.append_nil])
      have hr0 : r.size = 0 := by omega
      have hc0 : decide (0 < r.size) = false := by rw [hr0]; rfl
      clear hR h0 hr0
      go_wp2_with fail
      refine (bld_text Bl.out (by have := Z.out; omega)).mono ?_
      rintro e2 w3 ⟨rfl, hb3⟩
      have G3 := Lib.hid (Gr.below' Gg.out hb3)
      clear hb3
      go_wp2
      go_ret
      exact ⟨_, by rw [E.out], rfl, G3.out⟩
end Go.Proofs.YthmopindibdhnaaDoor
namespace Go.Proofs.YthmopindibdhnaaDoor
open Go.RowKit Go.Shelf
def wsG (p : List UInt8) : List UInt8 := if p == [92, 47] then [47] else p
theorem wsG_le (p : List UInt8) : (wsG p).length ≤ p.length := by
  unfold wsG
  split
  · rename_i h; rw [beq_iff_eq] at h; rw [h]; decide
  · exact Nat.le_refl _
theorem ws_piece : Piece 84 #[] wsG := by
  intro p W
  by_cases h : p.toList = [92, 47]
  · have hb : (p.toList == [92, 47]) = true := by simpa using h
    have h' : p.data.toList = [92, 47] := by rw [ByteArray.toList_eq] at h; exact h
    show Calls Tryd.prog 84 #[.string p] W _
    rw [h']
    clear h h'
    go_enter Tryd.func84, Tryd.ntmps84
    go_wp2
    go_ret
    exact ⟨_, rfl, rfl, Gr.refl W⟩
  · have hb : (p.toList == [92, 47]) = false := by simpa using h
    have h' : wsG p.data.toList = p.data.toList := by rw [ByteArray.toList_eq] at h; unfold wsG; rw [if_neg (by simpa using h)]
    show Calls Tryd.prog 84 #[.string p] W _
    rw [h']
    clear h h'
    go_enter Tryd.func84, Tryd.ntmps84
    go_wp2
    go_ret
    exact ⟨_, rfl, rfl, Gr.refl W⟩
def wsL (l : List UInt8) : List UInt8 := eachL wsG l.length l
theorem ws_p (s : ByteArray) (hs : s.size ≤ 140737488351232) (w : World) : Calls Tryd.prog 69 #[.string s] w fun e w' => ∃ q : ByteArray, q.data.toList = wsL s.data.toList ∧ e = .returned (.string q) ∧ Gr w w' := by
  have HE := Lib.hid (fun w => each_ws wsG wsG_le ws_piece s hs w)
  have hR : wsL s.data.toList = eachL wsG s.size s.data.toList := by unfold wsL; rw [sizeL]
  rw [hR]
  clear hR
  go_enter Tryd.func69, Tryd.ntmps69
  go_wp2_with fail
  refine (HE.out _).mono ?_
  rintro e w2 ⟨q, hq, rfl, g⟩
  go_wp2
  go_ret
  exact ⟨q, hq, rfl, g⟩
end Go.Proofs.YthmopindibdhnaaDoor
namespace Go.Proofs.YthmopindibdhnaaDoor
open Go.RowKit Go.Shelf
/-- how many bytes from a place on are flags, in their order -/
def flagN (l : List UInt8) (a : Nat) : List UInt8 → Nat → Nat
  | [], n => n
  | c :: t, n => flagN l a t (if l[a + n]? = some c then n + 1 else n)
theorem flagN_step {l all : List UInt8} {a i n : Nat} (h : i < all.length) : flagN l a (all.drop i) n = flagN l a (all.drop (i + 1)) (if l[a + n]? = some all[i] then n + 1 else n) := by
  rw [List.drop_eq_getElem_cons h, flagN]
variable {w : World} {P M : Nat} {s : ByteArray} {at_ en : Nat} {tm : Bool} {tv bv ov : Value} {o : UInt8}
set_option maxRecDepth 100000 in
set_option maxHeartbeats 1000000 in
theorem flags_m {Q fr : Nat} (h : Sc w P M s at_ en tm tv bv ov) (hq : Quo w Q P fr o) (hQP : Q ≠ P) (hat : at_ ≤ s.size) (hs : s.size ≤ 140737488351232) (all : ByteArray) (hall : all.size ≤ 100) :
    Calls Tryd.prog 70 #[.pointer (some ⟨Q, 0, none⟩), .string all] w fun e w' => e = .returned (.string (s.extract at_ (at_ + flagN s.data.toList at_ all.data.toList 0))) ∧ Sc w' P M s (at_ + flagN s.data.toList at_ all.data.toList 0) en tm tv bv ov ∧ But P w w' := by
  have H := Lib.hid h
  have HQ := Lib.hid hq
  obtain ⟨l, hl⟩ : ∃ l, l = s.data.toList := ⟨_, rfl⟩
  have hsz : s.size = l.length := by rw [hl, ← sizeL]
  have HB := Lib.hid (fun n (h : n < s.size) (h' : n < l.length) => (show s[n] = l[n] by subst hl; exact byteE s n h h'))
  have HA := Lib.hid (fun n (h : n < all.size) (h' : n < all.data.toList.length) => byteE all n h h')
  rw [← hl]
  have HR : Hid (flagN l at_ all.data.toList 0 = flagN l at_ (all.data.toList.drop 0) 0) := Lib.hid rfl
  generalize flagN l at_ all.data.toList 0 = R at *
  have Hsz := Lib.hid hsz
  have HT := Lib.hid (fun (W : World) (n : Nat) (hn : at_ + n ≤ s.size) (hS : Sc W P M s at_ en tm tv bv ov) => take_p hS n hn hs)
  clear h hq hl hsz
  go_enter Tryd.func70, Tryd.ntmps70
  go_wp2_with fail
  go_loopw [5, 6, 9] (fun nv _ iv wr => ∃ n i : Nat, nv = .int .i64 (n : Int) ∧ iv = .int .i64 (i : Int) ∧ i ≤ all.size ∧ n ≤ i ∧ at_ + n ≤ s.size ∧ Gr w wr ∧ Hid (R = flagN l at_ (all.data.toList.drop i) n)) (fun _ _ iv _ => leftTo all.size iv)
  case atStart => exact ⟨0, 0, rfl, rfl, Nat.zero_le _, Nat.le_refl _, hat, Gr.refl w, HR⟩
  case round =>
    obtain ⟨n, i, rfl, rfl, hi, hni, hn, hg, hR⟩ := hrel
    clear HR
    have Hg := Lib.hid hg
    clear hg
    obtain ⟨c0, c1, c2, c3, c4, c5, c6, c7, cf⟩ := (H.out.gr Hg.out).cells
    obtain ⟨q0, q1, q2⟩ := (HQ.out.but (But.of_gr Hg.out) hQP).cells
    by_cases hc : i < all.size
    · have hci : (i : Int) < (all.size : Int) := by omega
      have hiL : i < all.data.toList.length := by rw [sizeL]; exact hc
      have ea := HA.out i hc hiL
      have hst := flagN_step (l := l) (a := at_) (n := n) hiL
      obtain ⟨m, hm⟩ : ∃ m, m = at_ + n := ⟨_, rfl⟩
      have hm' : (at_ : Int) + (n : Int) = (m : Int) := by omega
      have hwm : IntKind.i64.wrap (m : Int) = (m : Int) := by rw [IntKind.wrap_i64]; omega
      rw [← hm] at hst
      have bn : (n : Int) + 1 ≤ 9223372036854775807 := by omega
      have bn2 : -9223372036854775808 ≤ (n : Int) + 1 := by omega
      have Hm := Lib.hid hm
      by_cases hml : m < l.length
      · rw [List.getElem?_eq_getElem hml] at hst
        have hms : m < s.size := by rw [Hsz.out]; exact hml
        have hmi : (m : Int) < (s.size : Int) := by omega
        have ex := HB.out m hms hml
        by_cases hxy : l[m] = all.data.toList[i]
        · rw [hxy] at hst ex
          rw [if_pos rfl] at hst
          have HE := Lib.hid hst
          generalize all.data.toList[i] = y at *
          clear hst hxy HB HA HT hm
          go_wp2_with fail
          go_quiet (fail)
          go_wp2_with fail
          go_roundw
          case rel =>
            have := Hm.out
            exact ⟨n + 1, i + 1, rfl, rfl, by omega, by omega, by omega, Hg.out.drewN _, Lib.hid (by rw [hR.out, HE.out])⟩
          case measure => simp only [leftTo]; omega
        · rw [if_neg (fun h => hxy (Option.some.inj h))] at hst
          have HE := Lib.hid hst
          have hne : ((l[m].toNat : Int) == (all.data.toList[i].toNat : Int)) = false := by
            simp only [beq_eq_false_iff_ne, ne_eq]
            intro h
            exact hxy (UInt8.toNat_inj.1 (by omega))
          generalize all.data.toList[i] = y at *
          generalize l[m] = x at *
          clear hst hxy HB HA HT hm
          go_wp2_with fail
          go_quiet (fail)
          go_wp2_with fail
          go_roundw
          case rel =>
            exact ⟨n, i + 1, rfl, rfl, by omega, by omega, hn, Hg.out.drewN _, Lib.hid (by rw [hR.out, HE.out])⟩
          case measure => simp only [leftTo]; omega
      · rw [List.getElem?_eq_none (by omega), if_neg (by simp)] at hst
        have HE := Lib.hid hst
        have hmi : decide (m < s.size) = false := by rw [Hsz.out]; simp; omega
        have hmi' : decide ((m : Int) < (s.size : Int)) = false := by rw [Hsz.out]; simp; omega
        clear hst HB HA HT hm ea
        go_wp2_with fail
        go_quiet (fail)
        go_wp2_with fail
        go_roundw
        case rel =>
          exact ⟨n, i + 1, rfl, rfl, by omega, by omega, hn, Hg.out.drewN _, Lib.hid (by rw [hR.out, HE.out])⟩
        case measure => simp only [leftTo]; omega
    · have E : Hid (R = n) := Lib.hid (by rw [hR.out, List.drop_eq_nil_of_le (by rw [sizeL]; omega)]; rfl)
      have hci : decide ((i : Int) < (all.size : Int)) = false := by simp; omega
      have hci' : decide (i < all.size) = false := by simp; omega
      clear hR HB HA hc
      go_wp2_with fail
      refine (HT.out _ n hn (H.out.gr Hg.out)).mono ?_
      rintro e w2 ⟨rfl, hS2, hb2⟩
      go_wp2
      go_ret
      rw [E.out]
      exact ⟨rfl, hS2, (But.of_gr Hg.out).trans hb2⟩
end Go.Proofs.YthmopindibdhnaaDoor
namespace Go.Proofs.YthmopindibdhnaaDoor
open Go.RowKit Go.Shelf
variable {w : World} {P M : Nat} {s : ByteArray} {at_ en : Nat} {tm : Bool} {tv bv ov : Value} {o e : UInt8} {f m : Nat}
theorem cellsOf {W : World} {g : Nat} {c : Array Value} {t : TypeId} (h : W.heap[g]? = some (.cells c t (0, 0))) : (∀ j, W.cell? ⟨g, j, none⟩ = c[j]?) ∧ ∀ j, W.frozen? ⟨g, j, none⟩ = false := by
  simp [World.cell?, World.frozen?, h]
set_option maxRecDepth 100000 in
set_option maxHeartbeats 2000000 in
theorem qtoken_pat {Q fr : Nat} (h : Sc w P M s at_ en tm tv bv ov) (hq : Quo w Q P fr o) (hQP : Q ≠ P) (hs : s.size ≤ 140737488351232) (he : (e.toNat : Int) = partI o.toNat) (he92 : e ≠ 92) (ho92 : o ≠ 92) (hm : endR s.data.toList o e f 0 (at_ + 1) = some m) (n : Nat) (hn : flagN s.data.toList (m + 1) [105, 109, 115, 120, 103] 0 = n) :
    Calls Tryd.prog 51 #[.pointer (some ⟨Q, 0, none⟩), .int .i64 7] w fun e w' => ∃ q : ByteArray, q.data.toList = wsL ((s.data.toList.drop (at_ + 1)).take (m - (at_ + 1))) ∧ e = .returned (Tok.val ⟨7, 0, q, ⟨#[]⟩, s.extract (m + 1) (m + 1 + n), 0⟩) ∧ Sc w' P M s (m + 1 + n) en tm tv bv ov ∧ But P w w' := by
  have H := Lib.hid h
  have HQ := Lib.hid hq
  have hle := endR_le hm
  rw [sizeL] at hle
  have hmb : at_ + 1 ≤ s.size := by omega
  have HPt := Lib.hid (fun (W : World) (hS : Sc W P M s (at_ + 1) en tm tv bv ov) (hq : Quo W Q P fr o) => part_m hS hq hQP hs he he92 ho92 hm)
  have HF := Lib.hid (fun (W : World) (hS : Sc W P M s (m + 1) en tm tv bv ov) (hq : Quo W Q P fr o) => flags_m hS hq hQP (by omega) hs ⟨#[105, 109, 115, 120, 103]⟩ (by decide))
  rw [show (⟨#[105, 109, 115, 120, 103]⟩ : ByteArray).data.toList = [105, 109, 115, 120, 103] from rfl, hn] at HF
  have hwl : (((s.data.toList.drop (at_ + 1)).take (m - (at_ + 1))).length) ≤ 140737488351232 := by rw [List.length_take, List.length_drop, sizeL]; omega
  have HWS := Lib.hid (fun w => ws_p ⟨((s.data.toList.drop (at_ + 1)).take (m - (at_ + 1))).toArray⟩ (by rw [← sizeL]; simpa using hwl) w)
  rw [show (⟨((s.data.toList.drop (at_ + 1)).take (m - (at_ + 1))).toArray⟩ : ByteArray).data.toList = (s.data.toList.drop (at_ + 1)).take (m - (at_ + 1)) from rfl] at HWS
  generalize (s.data.toList.drop (at_ + 1)).take (m - (at_ + 1)) = raw at *
  have hP : P < w.heap.size := h.lt.1
  have hM : M < w.heap.size := h.lt.2
  have hQ : Q < w.heap.size := (Array.getElem?_eq_some_iff.1 hq).1
  obtain ⟨a1, ha1⟩ : ∃ a1, a1 = at_ + 1 := ⟨_, rfl⟩
  rw [← ha1] at HPt
  have hw1 : IntKind.i64.wrap ((at_ : Int) + 1) = (a1 : Int) := by rw [IntKind.wrap_i64]; omega
  have hw2 : wrap64 ((at_ : Int) + 1) = (a1 : Int) := by simp only [wrap64]; omega
  have G0 : Gr w ((w.alloc (.cells #[.int .i64 0, .int .i64 0, .string ⟨#[]⟩, .string ⟨#[]⟩, .string ⟨#[]⟩, .int .i64 0] 32)).alloc (.cells #[.int .i64 7, .int .i64 0, .string ⟨#[]⟩, .string ⟨#[]⟩, .string ⟨#[]⟩, .int .i64 0] 32)) := ((Gr.refl w).alloc _).alloc _
  obtain ⟨c0, c1, c2, c3, c4, c5, c6, c7, cf⟩ := (h.gr G0).cells
  obtain ⟨q0, q1, q2⟩ := (hq.but (But.of_gr G0) hQP).cells
  clear h hq hle hwl hn hm he hmb ha1 G0
  go_enter Tryd.func51, Tryd.ntmps51
  go_wp2_with fail
  generalize hX : ((w.setCell ⟨P, 1, none⟩ (.int .i64 (a1 : Int))).alloc (.cells #[.int .i64 0, .int .i64 0, .string ⟨#[]⟩, .string ⟨#[]⟩, .string ⟨#[]⟩, .int .i64 0] 32)).alloc (.cells #[.int .i64 7, .int .i64 0, .string ⟨#[]⟩, .string ⟨#[]⟩, .string ⟨#[]⟩, .int .i64 0] 32) = X
  have hsX : (w.setCell ⟨P, 1, none⟩ (.int .i64 (a1 : Int))).heap.size = w.heap.size := by simp [World.setCell]
  have GX : Gr (w.setCell ⟨P, 1, none⟩ (.int .i64 (a1 : Int))) X := by rw [← hX]; exact ((Gr.refl _).alloc _).alloc _
  have SX := Lib.hid ((H.out.setAt a1).gr GX)
  have BX := Lib.hid ((But.set (P := P) (w := w) 1 (.int .i64 (a1 : Int))).trans (But.of_gr GX))
  have K4 : Hid (X.heap[w.heap.size]? = some (.cells #[.int .i64 0, .int .i64 0, .string ⟨#[]⟩, .string ⟨#[]⟩, .string ⟨#[]⟩, .int .i64 0] 32 (0, 0))) := Lib.hid (by
    rw [← hX, heap_alloc_old _ _ (by simp), ← hsX]; exact heap_alloc_new _ _)
  have K5 : Hid (X.heap[w.heap.size + 1]? = some (.cells #[.int .i64 7, .int .i64 0, .string ⟨#[]⟩, .string ⟨#[]⟩, .string ⟨#[]⟩, .int .i64 0] 32 (0, 0))) := Lib.hid (by
    rw [← hX]; have := heap_alloc_new ((w.setCell ⟨P, 1, none⟩ (.int .i64 (a1 : Int))).alloc (.cells #[.int .i64 0, .int .i64 0, .string ⟨#[]⟩, .string ⟨#[]⟩, .string ⟨#[]⟩, .int .i64 0] 32)) (.cells #[.int .i64 7, .int .i64 0, .string ⟨#[]⟩, .string ⟨#[]⟩, .string ⟨#[]⟩, .int .i64 0] 32); simpa using this)
  clear hX GX hsX c0 c1 c2 c3 c4 c5 c6 c7 cf q0 q1 q2 hw1 hw2
  refine (HPt.out _ SX.out (HQ.out.but BX.out hQP)).mono ?_
  rintro e2 w2 ⟨rfl, hS2, hb2⟩
  have S2 := Lib.hid hS2
  have B2 := Lib.hid (BX.out.trans hb2)
  have K42 := Lib.hid ((hb2.block _ (Array.getElem?_eq_some_iff.1 K4.out).1 (by simp; omega)).trans K4.out)
  have K52 := Lib.hid ((hb2.block _ (Array.getElem?_eq_some_iff.1 K5.out).1 (by simp; omega)).trans K5.out)
  clear hS2 hb2 SX BX K4 K5 HPt
  go_wp2_with fail
  refine (HWS.out _).mono ?_
  rintro e3 w3 ⟨q, hq, rfl, g3⟩
  have Hq := Lib.hid hq
  have S3 := Lib.hid (S2.out.gr g3)
  have B3 := Lib.hid (B2.out.trans (But.of_gr g3))
  have K43 := Lib.hid ((g3.block _ (Array.getElem?_eq_some_iff.1 K42.out).1).trans K42.out)
  have K53 := Lib.hid ((g3.block _ (Array.getElem?_eq_some_iff.1 K52.out).1).trans K52.out)
  clear hq g3 S2 B2 K42 K52 HWS
  have k2 : w3.cell? ⟨w.heap.size + 1, 2, none⟩ = some (.string ⟨#[]⟩) := by rw [(cellsOf K53.out).1]; rfl
  have kf : ∀ j, w3.frozen? ⟨w.heap.size + 1, j, none⟩ = false := (cellsOf K53.out).2
  go_wp2_with fail
  have BS : But (w.heap.size + 1) w3 (w3.setCell ⟨w.heap.size + 1, 2, none⟩ (.string q)) := But.set 2 _
  have S4 := Lib.hid (S3.out.but BS (by omega) (by omega))
  have B4 := Lib.hid (B3.out.late (by omega) BS)
  have K44 := Lib.hid ((BS.block _ (Array.getElem?_eq_some_iff.1 K43.out).1 (by simp)).trans K43.out)
  have K54 : Hid ((w3.setCell ⟨w.heap.size + 1, 2, none⟩ (.string q)).heap[w.heap.size + 1]? = some (.cells #[.int .i64 7, .int .i64 0, .string q, .string ⟨#[]⟩, .string ⟨#[]⟩, .int .i64 0] 32 (0, 0))) := Lib.hid (by
    have := K53.out
    simp [World.setCell, Array.getElem?_modify, this])
  clear BS S3 B3 K43 K53 k2 kf
  generalize w3.setCell ⟨w.heap.size + 1, 2, none⟩ (.string q) = X4 at *
  refine (HF.out _ S4.out (HQ.out.but B4.out hQP)).mono ?_
  rintro e5 w5 ⟨rfl, hS5, hb5⟩
  have S5 := Lib.hid hS5
  have B5 := Lib.hid (B4.out.trans hb5)
  have K45 := Lib.hid ((hb5.block _ (Array.getElem?_eq_some_iff.1 K44.out).1 (by simp; omega)).trans K44.out)
  have K55 := Lib.hid ((hb5.block _ (Array.getElem?_eq_some_iff.1 K54.out).1 (by simp; omega)).trans K54.out)
  clear hS5 hb5 S4 B4 K44 K54 HF
  have k2 : w5.cell? ⟨w.heap.size + 1, 4, none⟩ = some (.string ⟨#[]⟩) := by rw [(cellsOf K55.out).1]; rfl
  have kf : ∀ j, w5.frozen? ⟨w.heap.size + 1, j, none⟩ = false := (cellsOf K55.out).2
  have BS : But (w.heap.size + 1) w5 (w5.setCell ⟨w.heap.size + 1, 4, none⟩ (.string (s.extract (m + 1) (m + 1 + n)))) := But.set 4 _
  have S6 := Lib.hid (S5.out.but BS (by omega) (by omega))
  have B6 := Lib.hid (B5.out.late (by omega) BS)
  have K46 := Lib.hid ((BS.block _ (Array.getElem?_eq_some_iff.1 K45.out).1 (by simp)).trans K45.out)
  have K56 : Hid ((w5.setCell ⟨w.heap.size + 1, 4, none⟩ (.string (s.extract (m + 1) (m + 1 + n)))).heap[w.heap.size + 1]? = some (.cells #[.int .i64 7, .int .i64 0, .string q, .string ⟨#[]⟩, .string (s.extract (m + 1) (m + 1 + n)), .int .i64 0] 32 (0, 0))) := Lib.hid (by
    have := K55.out
    simp [World.setCell, Array.getElem?_modify, this])
  clear BS S5 B5 K45 K55
  obtain ⟨more, hmore⟩ : ∃ more, s.extract (m + 1) (m + 1 + n) = more := ⟨_, rfl⟩
  rw [hmore] at S6 B6 K46 K56 ⊢
  have Hmore := Lib.hid hmore
  clear hmore
  go_wp2_with (first | (refine wpList_load_row rfl 32 (.tmp 5) rfl (w.heap.size + 1) rfl 32 #[.int .i64 7, .int .i64 0, .string q, .string ⟨#[]⟩, .string more, .int .i64 0] (0, 0) _ K56.out Tryd.underlying32 rfl (by rw [tokInfo]; rfl) ?_) | (refine wpList_store_tok rfl (.tmp 4) (.tmp 98) rfl (t := ⟨7, 0, q, ⟨#[]⟩, more, 0⟩) rfl rfl K46.out rfl ?_))
  intro W7 hb7 hk7
  have B7 := Lib.hid hb7
  have K7 := Lib.hid hk7
  clear hb7 hk7
  go_wp2_with fail
  refine bodyPost_ret (results_tok rfl rfl K7.out) rfl ?_
  rw [Hmore.out]
  exact ⟨q, Hq.out, rfl, S6.out.but B7.out (by omega) (by omega), B6.out.late (Nat.le_refl _) B7.out⟩
end Go.Proofs.YthmopindibdhnaaDoor
namespace Go.Proofs.YthmopindibdhnaaDoor
open Go.RowKit Go.Shelf
variable {w : World} {P M : Nat} {s : ByteArray} {at_ en : Nat} {tm : Bool} {tv bv ov : Value} {o e : UInt8} {f m : Nat}
set_option maxRecDepth 100000 in
set_option maxHeartbeats 1000000 in
theorem quote_no (h : Sc w P M s at_ en tm tv bv ov) (hat : at_ ≤ s.size) (hs : s.size ≤ 140737488351232) (hq : quoteL (s.data.toList.drop at_) = none) :
    Calls Tryd.prog 39 #[.pointer (some ⟨P, 0, none⟩)] w fun e w' => e = .returned (.tuple #[tok0.val, .bool false]) ∧ Sc w' P M s at_ en tm tv bv ov ∧ But P w w' := by
  have H := Lib.hid h
  have HQ := Lib.hid (fun w => quoteKind_p (s.extract at_ s.size) (by simp [ByteArray.size_extract]; omega) w)
  rw [dropE, hq, show qkV none = .tuple #[.int .i64 0, .int .i64 0, .bool false] from rfl] at HQ
  have b0 : (at_ : Int) ≤ (s.size : Int) := by omega
  have hP : P < w.heap.size := h.lt.1
  have hM : M < w.heap.size := h.lt.2
  clear h hq
  go_enter Tryd.func39, Tryd.ntmps39
  go_wp2_with fail
  generalize hW : w.alloc (.cells #[.int .i64 0, .int .i64 0, .string ⟨#[]⟩, .string ⟨#[]⟩, .string ⟨#[]⟩, .int .i64 0] 32) = W1
  have G1 : Hid (Gr w W1) := Lib.hid (by rw [← hW]; exact (Gr.refl w).alloc _)
  have K1 : Hid (W1.heap[w.heap.size]? = some (.cells #[.int .i64 0, .int .i64 0, .string ⟨#[]⟩, .string ⟨#[]⟩, .string ⟨#[]⟩, .int .i64 0] 32 (0, 0))) := Lib.hid (by rw [← hW]; exact heap_alloc_new w _)
  clear hW
  obtain ⟨c0, c1, c2, c3, c4, c5, c6, c7, cf⟩ := (H.out.gr G1.out).cells
  go_quiet ((go_at_call 50; exact quiet_at (HQ.out _)))
  clear c0 c1 c2 c3 c4 c5 c6 c7 cf
  go_wp2_with (refine wpList_store_tok rfl (.tmp 2) (.tmp 24) rfl (t := tok0) rfl rfl K1.out rfl ?_)
  intro W3 hb3 hk3
  have B3 := Lib.hid hb3
  have K3 := Lib.hid hk3
  clear hb3 hk3
  go_wp2_with fail
  refine bodyPost_ret (results_tokB rfl rfl K3.out rfl) rfl ?_
  exact ⟨rfl, (H.out.gr (G1.out.drewN _)).but B3.out (by omega) (by omega), (But.of_gr (G1.out.drewN _)).late (Nat.le_refl _) B3.out⟩
set_option maxRecDepth 100000 in
set_option maxHeartbeats 1000000 in
theorem quote_pat (h : Sc w P M s at_ en tm tv bv ov) (hat : at_ ≤ s.size) (hs : s.size ≤ 140737488351232) (k : Nat) (hq : quoteL (s.data.toList.drop at_) = some (7, k)) (ho : s.data.toList[at_ + k]? = some o) (he : (e.toNat : Int) = partI o.toNat) (he92 : e ≠ 92) (ho92 : o ≠ 92)
    (hm : endR s.data.toList o e f 0 (at_ + k + 1) = some m) (n : Nat) (hn : flagN s.data.toList (m + 1) [105, 109, 115, 120, 103] 0 = n) :
    Calls Tryd.prog 39 #[.pointer (some ⟨P, 0, none⟩)] w fun e w' => ∃ q : ByteArray, q.data.toList = wsL ((s.data.toList.drop (at_ + k + 1)).take (m - (at_ + k + 1))) ∧ e = .returned (.tuple #[Tok.val ⟨7, 0, q, ⟨#[]⟩, s.extract (m + 1) (m + 1 + n), 0⟩, .bool true]) ∧ Sc w' P M s (m + 1 + n) en tm tv bv ov ∧ But P w w' := by
  have H := Lib.hid h
  have HQ := Lib.hid (fun w => quoteKind_p (s.extract at_ s.size) (by simp [ByteArray.size_extract]; omega) w)
  rw [dropE, hq, show qkV (some (7, k)) = .tuple #[.int .i64 7, .int .i64 k, .bool true] from rfl] at HQ
  obtain ⟨a, ha⟩ : ∃ a, a = at_ + k := ⟨_, rfl⟩
  rw [← ha] at ho hm ⊢
  have hL : a < s.data.toList.length := (List.getElem?_eq_some_iff.1 ho).1
  have has : a < s.size := by rw [sizeL] at hL; exact hL
  have ea : s[a] = o := by rw [byteE s a has hL]; exact (List.getElem?_eq_some_iff.1 ho).2
  have HT := Lib.hid (fun (W : World) (Q fr : Nat) (hS : Sc W P M s a en tm tv bv ov) (hq : Quo W Q P fr o) (hQP : Q ≠ P) => qtoken_pat hS hq hQP hs he he92 ho92 hm n hn)
  have b0 : (at_ : Int) ≤ (s.size : Int) := by omega
  have ha' : (at_ : Int) + (k : Int) = (a : Int) := by omega
  have hwa : IntKind.i64.wrap (a : Int) = (a : Int) := by rw [IntKind.wrap_i64]; omega
  have b1 : (a : Int) < (s.size : Int) := by omega
  have hP : P < w.heap.size := h.lt.1
  have hM : M < w.heap.size := h.lt.2
  have Ha := Lib.hid ha
  clear h hq ho hm hn hL ha
  go_enter Tryd.func39, Tryd.ntmps39
  go_wp2_with fail
  generalize hW : w.alloc (.cells #[.int .i64 0, .int .i64 0, .string ⟨#[]⟩, .string ⟨#[]⟩, .string ⟨#[]⟩, .int .i64 0] 32) = W1
  have G1 : Hid (Gr w W1) := Lib.hid (by rw [← hW]; exact (Gr.refl w).alloc _)
  have K1 : Hid (W1.heap[w.heap.size]? = some (.cells #[.int .i64 0, .int .i64 0, .string ⟨#[]⟩, .string ⟨#[]⟩, .string ⟨#[]⟩, .int .i64 0] 32 (0, 0))) := Lib.hid (by rw [← hW]; exact heap_alloc_new w _)
  clear hW
  obtain ⟨c0, c1, c2, c3, c4, c5, c6, c7, cf⟩ := (H.out.gr G1.out).cells
  go_quiet ((go_at_call 50; exact quiet_at (HQ.out _)))
  clear c0 c1 c2 c3 c4 c5 c6 c7 cf
  go_wp2_with fail
  obtain ⟨W2, hW2⟩ : ∃ W2, W2 = W1.drewN nq := ⟨_, rfl⟩
  rw [← hW2]
  have G2 : Hid (Gr w W2) := Lib.hid (by rw [hW2]; exact G1.out.drewN _)
  have K2 : Hid (W2.heap[w.heap.size]? = some (.cells #[.int .i64 0, .int .i64 0, .string ⟨#[]⟩, .string ⟨#[]⟩, .string ⟨#[]⟩, .int .i64 0] 32 (0, 0))) := Lib.hid (by rw [hW2]; exact K1.out)
  clear hW2 K1 G1
  obtain ⟨c0, c1, c2, c3, c4, c5, c6, c7, cf⟩ := (H.out.gr G2.out).cells
  obtain ⟨d0, d1, _, _, _, _, _, _, _⟩ := (H.out.gr (G2.out.alloc (.cells #[.pointer none, .int .i64 0, .int .u8 0] 79))).cells
  go_big_region
  clear c0 c1 c2 c3 c4 c5 c6 c7 cf d0 d1
  obtain ⟨X, hX⟩ : ∃ X, X = (W2.alloc (.cells #[.pointer (some ⟨P, 0, none⟩), .int .i64 (at_ : Int), .int .u8 (o.toNat : Int)] 79)).drew := ⟨_, rfl⟩
  rw [← hX]
  have GX : Hid (Gr W2 X) := Lib.hid (by rw [hX]; exact ((Gr.refl W2).alloc _).drew)
  have QX : Hid (Quo X W2.heap.size P at_ o) := Lib.hid (by rw [hX]; exact heap_alloc_new W2 _)
  have KX := Lib.hid ((GX.out.block _ (Array.getElem?_eq_some_iff.1 K2.out).1).trans K2.out)
  have SX := Lib.hid ((H.out.gr G2.out).gr GX.out)
  have hW2 : w.heap.size ≤ W2.heap.size := G2.out.size
  have BX := Lib.hid (But.of_gr (P := P) (Gr.trans G2.out GX.out))
  clear hX K2 GX
  obtain ⟨c0, c1, c2, c3, c4, c5, c6, c7, cf⟩ := SX.out.cells
  go_wp2_with fail
  have BS : But P X (X.setCell ⟨P, 1, none⟩ (.int .i64 (a : Int))) := But.set 1 _
  have S3 := Lib.hid (SX.out.setAt a)
  have B3 := Lib.hid (BX.out.trans BS)
  have Q3 := Lib.hid (QX.out.but BS (by omega))
  have K3 := Lib.hid ((BS.block _ (Array.getElem?_eq_some_iff.1 KX.out).1 (by simp; omega)).trans KX.out)
  clear BS SX BX QX KX c0 c1 c2 c3 c4 c5 c6 c7 cf
  refine (HT.out _ _ _ S3.out Q3.out (by omega)).mono ?_
  rintro e4 w4 ⟨q, hq, rfl, hS4, hb4⟩
  have Hq := Lib.hid hq
  have S4 := Lib.hid hS4
  have B4 := Lib.hid (B3.out.trans hb4)
  have K4 := Lib.hid ((hb4.block _ (Array.getElem?_eq_some_iff.1 K3.out).1 (by simp; omega)).trans K3.out)
  clear hq hS4 hb4 S3 B3 Q3 K3 HT
  go_wp2_with (refine wpList_store_tok rfl (.tmp 2) (.tmp 51) rfl (t := ⟨7, 0, q, ⟨#[]⟩, s.extract (m + 1) (m + 1 + n), 0⟩) rfl rfl K4.out rfl ?_)
  intro W5 hb5 hk5
  have B5 := Lib.hid hb5
  have K5 := Lib.hid hk5
  clear hb5 hk5
  go_wp2_with fail
  refine bodyPost_ret (results_tokB rfl rfl K5.out rfl) rfl ?_
  exact ⟨q, Hq.out, rfl, S4.out.but B5.out (by omega) (by omega), B4.out.late (Nat.le_refl _) B5.out⟩
end Go.Proofs.YthmopindibdhnaaDoor
