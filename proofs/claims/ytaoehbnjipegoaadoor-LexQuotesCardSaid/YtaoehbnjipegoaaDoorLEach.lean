/- Text by pieces: each byte, or a backslash with the byte behind it. -/
import Derived.Test.YtaoehbnjipegoaaDoorLPart
namespace Go.Proofs.YtaoehbnjipegoaaDoor
open Go.RowKit Go.Shelf
/-- what a function makes of the pieces -/
def eachL (g : List UInt8 → List UInt8) : Nat → List UInt8 → List UInt8
  | 0, _ => []
  | f + 1, l => match l with
    | [] => []
    | c :: t => if c = 92 ∧ 1 < l.length then g (l.take 2) ++ eachL g f (l.drop 2) else g (l.take 1) ++ eachL g f t
theorem eachL_nil (g : List UInt8 → List UInt8) (f : Nat) : eachL g f [] = [] := by cases f <;> rfl
theorem eachL_two {g : List UInt8 → List UInt8} {f : Nat} {l : List UInt8} (h : 1 < l.length) (hc : l[0] = 92) : eachL g (f + 1) l = g (l.take 2) ++ eachL g f (l.drop 2) := by
  cases l with
  | nil => simp at h
  | cons c t => rw [eachL, if_pos ⟨hc, h⟩]
theorem eachL_one {g : List UInt8 → List UInt8} {f : Nat} {l : List UInt8} (h : 0 < l.length) (hc : ¬ (l[0] = 92 ∧ 1 < l.length)) : eachL g (f + 1) l = g (l.take 1) ++ eachL g f (l.drop 1) := by
  cases l with
  | nil => simp at h
  | cons c t => rw [eachL, if_neg (show ¬ (c = 92 ∧ 1 < (c :: t).length) from hc)]; rfl
def strLen : Value → Nat
  | .string r => r.size
  | _ => 0
/-- the closure K, with what it has caught, makes g of a text -/
def Piece (K : Nat) (cb : Array Value) (g : List UInt8 → List UInt8) : Prop := ∀ (p : ByteArray) (W : World), Calls Tryd.prog K (#[.string p] ++ cb) W fun e w' => ∃ q : ByteArray, q.data.toList = g p.data.toList ∧ e = .returned (.string q) ∧ Gr W w'
theorem u8_lit {x : UInt8} (h : x ≠ 92) : ((x.toNat : Int) == 92) = false := by
  simp only [beq_eq_false_iff_ne, ne_eq]
  intro e
  exact h (UInt8.toNat_inj.1 (by have : (92 : UInt8).toNat = 92 := rfl; omega))
theorem Gr.below' {a b c : World} (h : Gr a b) (k : Below a.heap.size b c) : Gr a c := Below.trans h k
theorem Bld.gr' {B : Nat} {l : List UInt8} {a b : World} (h : Bld B l a) (k : Gr a b) : Bld B l b := by
  have hk : ∀ i, B ≤ i → i < a.heap.size → b.heap[i]? = a.heap[i]? := fun i _ h2 => k.block i h2
  have hat : ∀ p, Lib.BuilderAtF 54 5 B B p (Lib.byteCells l) a → Lib.BuilderAtF 54 5 B B p (Lib.byteCells l) b := fun p ⟨h1, v, h2, h3, h4⟩ =>
    ⟨h1, v, by rw [hk B (Nat.le_refl _) (Array.getElem?_eq_some_iff.1 h2).1]; exact h2, ownsRowF_same h3 hk, h4⟩
  exact h.elim (fun x => .inl (hat _ x)) (fun x => .inr (hat _ x))
set_option maxRecDepth 100000 in
set_option maxHeartbeats 1000000 in
theorem each_ws (g : List UInt8 → List UInt8) (hg : ∀ p, (g p).length ≤ p.length) (hP : Piece 97 #[] g) (s : ByteArray) (hs : s.size ≤ 140737488351232) (w : World) :
    Calls Tryd.prog 87 #[.string s, .func (.func 97) #[] #[]] w fun e w' => ∃ q : ByteArray, q.data.toList = eachL g s.size s.data.toList ∧ e = .returned (.string q) ∧ Gr w w' := by
  have HP := Lib.hid hP
  have HG := Lib.hid hg
  obtain ⟨R, hR⟩ : ∃ R, R = eachL g s.size s.data.toList := ⟨_, rfl⟩
  rw [← hR]
  have HR : Hid (R = [] ++ eachL g s.size s.data.toList) := Lib.hid (by rw [hR]; rfl)
  clear hR hP hg
  go_enter Tryd.func87, Tryd.ntmps87
  go_wp2_with fail
  generalize hW : w.alloc (.cells #[.pointer none, .slice none 0 0] 54) = W1
  have G1 : Hid (Gr w W1) := Lib.hid (by rw [← hW]; exact (Gr.refl w).alloc _)
  have hBl : Hid (Bld w.heap.size [] W1) := Lib.hid (by rw [← hW]; exact bld_new w)
  have hsz1 : Hid (W1.heap.size = w.heap.size + 1) := Lib.hid (by rw [← hW]; simp)
  clear hW
  go_loopw [0, 6] (fun v _ wr => ∃ (r : ByteArray) (acc : List UInt8) (f : Nat), v = .string r ∧ r.size ≤ f ∧ acc.length + r.size ≤ s.size ∧ Bld w.heap.size acc wr ∧ Gr w wr ∧ w.heap.size + 1 ≤ wr.heap.size ∧ Hid (R = acc ++ eachL g f r.data.toList)) (fun v _ _ => strLen v)
  case atStart => exact ⟨s, [], s.size, rfl, Nat.le_refl _, by simp, hBl.out, G1.out, by rw [hsz1.out]; exact Nat.le_refl _, HR⟩
  case round =>
    obtain ⟨r, acc, f, rfl, hf, ha, hB, hG, hZ, hR⟩ := hrel
    clear HR hBl hsz1 G1
    have Bl := Lib.hid hB
    have Gg := Lib.hid hG
    have Z := Lib.hid hZ
    clear hB hG hZ
    by_cases h0 : 0 < r.size
    · have hc0 : (0 : Int) < (r.size : Int) := by omega
      have hL0 : 0 < r.data.toList.length := by rw [sizeL]; exact h0
      have e0 := byteE r 0 h0 hL0
      obtain ⟨f, rfl⟩ : ∃ f', f = f' + 1 := ⟨f - 1, by omega⟩
      by_cases h1 : r.data.toList[0] = 92 ∧ 1 < r.data.toList.length
      · have hE := Lib.hid (eachL_two (g := g) (f := f) h1.2 h1.1)
        have h92 : ((r.data.toList[0].toNat : Int) == 92) = true := by rw [h1.1]; rfl
        have h2 : 1 < r.size := by have := h1.2; rw [sizeL] at this; exact this
        have hc1 : (1 : Int) < (r.size : Int) := by omega
        have hc2 : (2 : Int) ≤ (r.size : Int) := by omega
        have hp := HP.out (r.extract 0 2)
        have hx2 : (r.extract 0 2).data.toList = r.data.toList.take 2 := by rw [extractE]; simp
        rw [hx2] at hp
        have hd2 : (r.extract 2 r.size).data.toList = r.data.toList.drop 2 := dropE r 2
        have hd2s : (r.extract 2 r.size).size = r.size - 2 := by simp [ByteArray.size_extract]
        have hgl := HG.out (r.data.toList.take 2)
        rw [List.length_take, sizeL] at hgl
        have HPp := Lib.hid hp
        have Hd := Lib.hid hd2
        have Hds := Lib.hid hd2s
        have Hgl := Lib.hid hgl
        generalize r.data.toList[0] = x at *
        clear h1 hp hx2 hd2 hd2s hgl h2
        go_wp2_with fail
        refine (HPp.out _).mono ?_
        rintro e1 w2 ⟨q, hq, rfl, g2⟩
        have G2 := Lib.hid (Gr.trans Gg.out g2)
        have B2 := Lib.hid (Bld.gr' Bl.out g2)
        have Z2 : Hid (w.heap.size + 1 ≤ w2.heap.size) := Lib.hid (Nat.le_trans Z.out g2.size)
        have Hq := Lib.hid hq
        have Hqs : Hid (q.size ≤ 2) := Lib.hid (by have h3 := Hgl.out; rw [← sizeL, hq]; omega)
        clear g2 Gg Bl Z hq HPp
        go_wp2_with fail
        refine (bld_string q B2.out (by have := Hqs.out; omega) (by have := Z2.out; omega)).mono ?_
        rintro e2 w3 ⟨rfl, hl3, hb3, _⟩
        have G3 := Lib.hid (Gr.below' G2.out hb3)
        have B3 := Lib.hid hl3
        have Z3 : Hid (w.heap.size + 1 ≤ w3.heap.size) := Lib.hid (Nat.le_trans Z2.out hb3.size)
        clear hl3 hb3 G2 B2 Z2
        go_wp2_with fail
        go_roundw
        case rel =>
          have e3 := Hqs.out
          have e4 := Hds.out
          exact ⟨r.extract 2 r.size, acc ++ q.data.toList, f, rfl, by omega, by rw [List.length_append, sizeL]; omega, B3.out, G3.out, Z3.out, Lib.hid (by rw [hR.out, hE.out, Hd.out, Hq.out, List.append_assoc])⟩
        case measure => have e4 := Hds.out; simp only [strLen]; omega
      · have hE := Lib.hid (eachL_one (g := g) (f := f) hL0 h1)
        have hc1 : (1 : Int) ≤ (r.size : Int) := by omega
        have hp := HP.out (r.extract 0 1)
        have hx2 : (r.extract 0 1).data.toList = r.data.toList.take 1 := by rw [extractE]; simp
        rw [hx2] at hp
        have hd2 : (r.extract 1 r.size).data.toList = r.data.toList.drop 1 := dropE r 1
        have hd2s : (r.extract 1 r.size).size = r.size - 1 := by simp [ByteArray.size_extract]
        have hgl := HG.out (r.data.toList.take 1)
        rw [List.length_take, sizeL] at hgl
        have HPp := Lib.hid hp
        have Hd := Lib.hid hd2
        have Hds := Lib.hid hd2s
        have Hgl := Lib.hid hgl
        have hcase : ((r.data.toList[0].toNat : Int) == 92) = false ∨ (((r.data.toList[0].toNat : Int) == 92) = true ∧ decide (1 < r.size) = false ∧ decide ((1 : Int) < (r.size : Int)) = false) := by
          by_cases h5 : r.data.toList[0] = 92
          · refine .inr ⟨by rw [h5]; rfl, ?_, ?_⟩
            · have : ¬ 1 < r.data.toList.length := fun h6 => h1 ⟨h5, h6⟩
              rw [sizeL] at this; simp; omega
            · have : ¬ 1 < r.data.toList.length := fun h6 => h1 ⟨h5, h6⟩
              rw [sizeL] at this; simp; omega
          · exact .inl (u8_lit h5)
        generalize r.data.toList[0] = x at *
        clear h1 hp hx2 hd2 hd2s hgl
        rcases hcase with h92 | ⟨h92, hlt, hlt'⟩
        · go_wp2_with fail
          refine (HPp.out _).mono ?_
          rintro e1 w2 ⟨q, hq, rfl, g2⟩
          have G2 := Lib.hid (Gr.trans Gg.out g2)
          have B2 := Lib.hid (Bld.gr' Bl.out g2)
          have Z2 : Hid (w.heap.size + 1 ≤ w2.heap.size) := Lib.hid (Nat.le_trans Z.out g2.size)
          have Hq := Lib.hid hq
          have Hqs : Hid (q.size ≤ 1) := Lib.hid (by have h3 := Hgl.out; rw [← sizeL, hq]; omega)
          clear g2 Gg Bl Z hq HPp
          go_wp2_with fail
          refine (bld_string q B2.out (by have := Hqs.out; omega) (by have := Z2.out; omega)).mono ?_
          rintro e2 w3 ⟨rfl, hl3, hb3, _⟩
          have G3 := Lib.hid (Gr.below' G2.out hb3)
          have B3 := Lib.hid hl3
          have Z3 : Hid (w.heap.size + 1 ≤ w3.heap.size) := Lib.hid (Nat.le_trans Z2.out hb3.size)
          clear hl3 hb3 G2 B2 Z2
          go_wp2_with fail
          go_roundw
          case rel =>
            have e3 := Hqs.out
            have e4 := Hds.out
            exact ⟨r.extract 1 r.size, acc ++ q.data.toList, f, rfl, by omega, by rw [List.length_append, sizeL]; omega, B3.out, G3.out, Z3.out, Lib.hid (by rw [hR.out, hE.out, Hd.out, Hq.out, List.append_assoc])⟩
          case measure => have e4 := Hds.out; simp only [strLen]; omega
        · go_wp2_with fail
          refine (HPp.out _).mono ?_
          rintro e1 w2 ⟨q, hq, rfl, g2⟩
          have G2 := Lib.hid (Gr.trans Gg.out g2)
          have B2 := Lib.hid (Bld.gr' Bl.out g2)
          have Z2 : Hid (w.heap.size + 1 ≤ w2.heap.size) := Lib.hid (Nat.le_trans Z.out g2.size)
          have Hq := Lib.hid hq
          have Hqs : Hid (q.size ≤ 1) := Lib.hid (by have h3 := Hgl.out; rw [← sizeL, hq]; omega)
          clear g2 Gg Bl Z hq HPp
          go_wp2_with fail
          refine (bld_string q B2.out (by have := Hqs.out; omega) (by have := Z2.out; omega)).mono ?_
          rintro e2 w3 ⟨rfl, hl3, hb3, _⟩
          have G3 := Lib.hid (Gr.below' G2.out hb3)
          have B3 := Lib.hid hl3
          have Z3 : Hid (w.heap.size + 1 ≤ w3.heap.size) := Lib.hid (Nat.le_trans Z2.out hb3.size)
          clear hl3 hb3 G2 B2 Z2
          go_wp2_with fail
          go_roundw
          case rel =>
            have e3 := Hqs.out
            have e4 := Hds.out
            exact ⟨r.extract 1 r.size, acc ++ q.data.toList, f, rfl, by omega, by rw [List.length_append, sizeL]; omega, B3.out, G3.out, Z3.out, Lib.hid (by rw [hR.out, hE.out, Hd.out, Hq.out, List.append_assoc])⟩
          case measure => have e4 := Hds.out; simp only [strLen]; omega
    · have E : Hid (R = acc) := Lib.hid (by rw [hR.out, show r.data.toList = [] from List.length_eq_zero_iff.1 (by rw [sizeL]; omega), eachL_nil, List.append_nil])
      have hr0 : r.size = 0 := by omega
      have hc0 : decide (0 < r.size) = false := by rw [hr0]; rfl
      clear hR h0 hr0
      go_wp2_with fail
      refine (bld_text Bl.out (by have := Z.out; omega)).mono ?_
      rintro e2 w3 ⟨rfl, hb3⟩
      have G3 := Lib.hid (Gr.below' Gg.out hb3)
      clear hb3
      go_wp2
      go_ret
      exact ⟨_, by rw [E.out], rfl, G3.out⟩
end Go.Proofs.YtaoehbnjipegoaaDoor
