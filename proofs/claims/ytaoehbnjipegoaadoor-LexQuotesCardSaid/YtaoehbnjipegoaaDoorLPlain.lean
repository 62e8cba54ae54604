/- Texts without interpolation: what stands between the quotes. -/
import Derived.Test.YtaoehbnjipegoaaDoorLQuoteS
namespace Go.Proofs.YtaoehbnjipegoaaDoor
open Go.RowKit Go.Shelf
theorem delim39 (c : UInt8) (w : World) : Calls Tryd.prog 89 #[.int .u8 (c.toNat : Int), .int .u8 39] w fun e w' => e = .returned (.bool (decide (c = 39))) ∧ w = w' := by
  have HP := Lib.hid (fun w => part_p 39 w)
  rw [show partI 39 = 39 from rfl] at HP
  by_cases h : c = 39
  · have t0 : ((c.toNat : Int) == 39) = true := by rw [h]; rfl
    rw [decide_eq_true h]
    clear h
    go_enter Tryd.func89, Tryd.ntmps89
    go_wp2
    go_ret
    exact ⟨rfl, rfl⟩
  · have t0 : ((c.toNat : Int) == 39) = false := by
      simp only [beq_eq_false_iff_ne, ne_eq]
      intro h2
      exact h (UInt8.toNat_inj.1 (by simpa using Int.ofNat.inj h2))
    rw [decide_eq_false h]
    clear h
    go_enter Tryd.func89, Tryd.ntmps89
    go_wp2_with fail
    refine (HP.out _).mono ?_
    rintro e w1 ⟨rfl, rfl⟩
    go_wp2
    go_ret
    exact ⟨rfl, rfl⟩
def plG (p : List UInt8) : List UInt8 := if p.length = 2 ∧ (p[1]? = some 92 ∨ p[1]? = some 39) then p.drop 1 else p
theorem plG_le (p : List UInt8) : (plG p).length ≤ p.length := by
  unfold plG
  split
  · rw [List.length_drop]; omega
  · exact Nat.le_refl _
/-- the closure with its box in block B makes g of a text -/
def PieceB (B : Nat) (g : List UInt8 → List UInt8) : Prop := ∀ (p : ByteArray) (W : World), W.cell? ⟨B, 0, none⟩ = some (.int .u8 39) → Calls Tryd.prog 93 #[.string p, .pointer (some ⟨B, 0, none⟩)] W fun e w' => ∃ q : ByteArray, q.data.toList = g p.data.toList ∧ e = .returned (.string q) ∧ Gr W w'
set_option maxRecDepth 100000 in
theorem pl_piece (B : Nat) : PieceB B plG := by
  intro p W hcell
  have HD := Lib.hid (fun c w => delim39 c w)
  by_cases h2 : p.size = 2
  · have t0 : ((p.size : Int) == 2) = true := by rw [h2]; rfl
    have hL : 1 < p.data.toList.length := by rw [sizeL]; omega
    have h1 : 1 < p.size := by omega
    have hi1 : (1 : Int) < (p.size : Int) := by omega
    have hi2 : (1 : Int) ≤ (p.size : Int) := by omega
    have ex := byteE p 1 h1 hL
    have hG : plG p.data.toList = if p.data.toList[1] = 92 ∨ p.data.toList[1] = 39 then p.data.toList.drop 1 else p.data.toList := by
      unfold plG
      rw [List.getElem?_eq_getElem hL, sizeL]
      simp [h2]
    have hX : (p.extract 1 p.size).data.toList = p.data.toList.drop 1 := dropE p 1
    have HX := Lib.hid hX
    rw [hG]
    clear hG hX h2
    generalize p.data.toList[1] = x at *
    have hD := Lib.hid (fun w => HD.out x w)
    clear HD
    by_cases hx : x = 92
    · have t1 : ((x.toNat : Int) == 92) = true := by rw [hx]; rfl
      rw [if_pos (.inl hx)]
      clear hx
      go_enter Tryd.func93, Tryd.ntmps93
      go_wp2_with fail
      go_quiet ((go_at_call 89; exact quiet_at (hD.out _)))
      go_wp2_with fail
      go_ret
      exact ⟨_, HX.out, rfl, (Gr.refl W).drewN _⟩
    · have t1 : ((x.toNat : Int) == 92) = false := u8_lit hx
      by_cases hy : x = 39
      · rw [if_pos (.inr hy)]
        rw [decide_eq_true hy] at hD
        clear hx hy
        go_enter Tryd.func93, Tryd.ntmps93
        go_wp2_with fail
        go_quiet ((go_at_call 89; exact quiet_at (hD.out _)))
        go_wp2_with fail
        go_ret
        exact ⟨_, HX.out, rfl, (Gr.refl W).drewN _⟩
      · rw [if_neg (by rintro (h | h); exact hx h; exact hy h)]
        rw [decide_eq_false hy] at hD
        clear hx hy
        go_enter Tryd.func93, Tryd.ntmps93
        go_wp2_with fail
        go_quiet ((go_at_call 89; exact quiet_at (hD.out _)))
        go_wp2_with fail
        go_ret
        exact ⟨_, rfl, rfl, (Gr.refl W).drewN _⟩
  · have t0 : ((p.size : Int) == 2) = false := by simp; omega
    have hG : plG p.data.toList = p.data.toList := by unfold plG; rw [if_neg (by rw [sizeL]; exact fun h => h2 h.1)]
    rw [hG]
    clear hG h2 HD
    go_enter Tryd.func93, Tryd.ntmps93
    go_wp2_with fail
    go_quiet (fail)
    go_wp2_with fail
    go_ret
    exact ⟨_, rfl, rfl, (Gr.refl W).drewN _⟩
set_option maxRecDepth 100000 in
set_option maxHeartbeats 1000000 in
theorem each_pl {B : Nat} (g : List UInt8 → List UInt8) (hg : ∀ p, (g p).length ≤ p.length) (hP : PieceB B g) (s : ByteArray) (hs : s.size ≤ 140737488351232) (w : World) (hB0 : B < w.heap.size) (hcell : w.cell? ⟨B, 0, none⟩ = some (.int .u8 39)) :
    Calls Tryd.prog 87 #[.string s, .func (.func 93) #[] #[.pointer (some ⟨B, 0, none⟩)]] w fun e w' => ∃ q : ByteArray, q.data.toList = eachL g s.size s.data.toList ∧ e = .returned (.string q) ∧ Gr w w' := by
  have HP := Lib.hid hP
  have HC := Lib.hid (fun (W : World) (g : Gr w W) => (cell_gr (j := 0) g hB0).trans hcell)
  clear hB0 hcell
  have HG := Lib.hid hg
  obtain ⟨R, hR⟩ : ∃ R, R = eachL g s.size s.data.toList := ⟨_, rfl⟩
  rw [← hR]
  have HR : Hid (R = [] ++ eachL g s.size s.data.toList) := Lib.hid (by rw [hR]; rfl)
  clear hR hP hg
  go_enter Tryd.func87, Tryd.ntmps87
  go_wp2_with fail
  generalize hW : w.alloc (.cells #[.pointer none, .slice none 0 0] 54) = W1
  have G1 : Hid (Gr w W1) := Lib.hid (by rw [← hW]; exact (Gr.refl w).alloc _)
  have hBl : Hid (Bld w.heap.size [] W1) := Lib.hid (by rw [← hW]; exact bld_new w)
  have hsz1 : Hid (W1.heap.size = w.heap.size + 1) := Lib.hid (by rw [← hW]; simp)
  clear hW
  go_loopw [0, 6] (fun v _ wr => ∃ (r : ByteArray) (acc : List UInt8) (f : Nat), v = .string r ∧ r.size ≤ f ∧ acc.length + r.size ≤ s.size ∧ Bld w.heap.size acc wr ∧ Gr w wr ∧ w.heap.size + 1 ≤ wr.heap.size ∧ Hid (R = acc ++ eachL g f r.data.toList)) (fun v _ _ => strLen v)
  case atStart => exact ⟨s, [], s.size, rfl, Nat.le_refl _, by simp, hBl.out, G1.out, by rw [hsz1.out]; exact Nat.le_refl _, HR⟩
  case round =>
    obtain ⟨r, acc, f, rfl, hf, ha, hB, hG, hZ, hR⟩ := hrel
    clear HR hBl hsz1 G1
    have Bl := Lib.hid hB
    have Gg := Lib.hid hG
    have Z := Lib.hid hZ
    clear hB hG hZ
    by_cases h0 : 0 < r.size
    · have hc0 : (0 : Int) < (r.size : Int) := by omega
      have hL0 : 0 < r.data.toList.length := by rw [sizeL]; exact h0
      have e0 := byteE r 0 h0 hL0
      obtain ⟨f, rfl⟩ : ∃ f', f = f' + 1 := ⟨f - 1, by omega⟩
      by_cases h1 : r.data.toList[0] = 92 ∧ 1 < r.data.toList.length
      · have hE := Lib.hid (eachL_two (g := g) (f := f) h1.2 h1.1)
        have h92 : ((r.data.toList[0].toNat : Int) == 92) = true := by rw [h1.1]; rfl
        have h2 : 1 < r.size := by have := h1.2; rw [sizeL] at this; exact this
        have hc1 : (1 : Int) < (r.size : Int) := by omega
        have hc2 : (2 : Int) ≤ (r.size : Int) := by omega
        have hp := HP.out (r.extract 0 2)
        have hx2 : (r.extract 0 2).data.toList = r.data.toList.take 2 := by rw [extractE]; simp
        rw [hx2] at hp
        have hd2 : (r.extract 2 r.size).data.toList = r.data.toList.drop 2 := dropE r 2
        have hd2s : (r.extract 2 r.size).size = r.size - 2 := by simp [ByteArray.size_extract]
        have hgl := HG.out (r.data.toList.take 2)
        rw [List.length_take, sizeL] at hgl
        have HPp := Lib.hid hp
        have Hd := Lib.hid hd2
        have Hds := Lib.hid hd2s
        have Hgl := Lib.hid hgl
        generalize r.data.toList[0] = x at *
        clear h1 hp hx2 hd2 hd2s hgl h2
        go_wp2_with fail
        refine (HPp.out _ (HC.out _ Gg.out)).mono ?_
        rintro e1 w2 ⟨q, hq, rfl, g2⟩
        have G2 := Lib.hid (Gr.trans Gg.out g2)
        have B2 := Lib.hid (Bld.gr' Bl.out g2)
        have Z2 : Hid (w.heap.size + 1 ≤ w2.heap.size) := Lib.hid (Nat.le_trans Z.out g2.size)
        have Hq := Lib.hid hq
        have Hqs : Hid (q.size ≤ 2) := Lib.hid (by have h3 := Hgl.out; rw [← sizeL, hq]; omega)
        clear g2 Gg Bl Z hq HPp
        go_wp2_with fail
        refine (bld_string q B2.out (by have := Hqs.out; omega) (by have := Z2.out; omega)).mono ?_
        rintro e2 w3 ⟨rfl, hl3, hb3, _⟩
        have G3 := Lib.hid (Gr.below' G2.out hb3)
        have B3 := Lib.hid hl3
        have Z3 : Hid (w.heap.size + 1 ≤ w3.heap.size) := Lib.hid (Nat.le_trans Z2.out hb3.size)
        clear hl3 hb3 G2 B2 Z2
        go_wp2_with fail
        go_roundw
        case rel =>
          have e3 := Hqs.out
          have e4 := Hds.out
          exact ⟨r.extract 2 r.size, acc ++ q.data.toList, f, rfl, by omega, by rw [List.length_append, sizeL]; omega, B3.out, G3.out, Z3.out, Lib.hid (by rw [hR.out, hE.out, Hd.out, Hq.out, List.append_assoc])⟩
        case measure => have e4 := Hds.out; simp only [strLen]; omega
      · have hE := Lib.hid (eachL_one (g := g) (f := f) hL0 h1)
        have hc1 : (1 : Int) ≤ (r.size : Int) := by omega
        have hp := HP.out (r.extract 0 1)
        have hx2 : (r.extract 0 1).data.toList = r.data.toList.take 1 := by rw [extractE]; simp
        rw [hx2] at hp
        have hd2 : (r.extract 1 r.size).data.toList = r.data.toList.drop 1 := dropE r 1
        have hd2s : (r.extract 1 r.size).size = r.size - 1 := by simp [ByteArray.size_extract]
        have hgl := HG.out (r.data.toList.take 1)
        rw [List.length_take, sizeL] at hgl
        have HPp := Lib.hid hp
        have Hd := Lib.hid hd2
        have Hds := Lib.hid hd2s
        have Hgl := Lib.hid hgl
        have hcase : ((r.data.toList[0].toNat : Int) == 92) = false ∨ (((r.data.toList[0].toNat : Int) == 92) = true ∧ decide (1 < r.size) = false ∧ decide ((1 : Int) < (r.size : Int)) = false) := by
          by_cases h5 : r.data.toList[0] = 92
          · refine .inr ⟨by rw [h5]; rfl, ?_, ?_⟩
            · have : ¬ 1 < r.data.toList.length := fun h6 => h1 ⟨h5, h6⟩
              rw [sizeL] at this; simp; omega
            · have : ¬ 1 < r.data.toList.length := fun h6 => h1 ⟨h5, h6⟩
              rw [sizeL] at this; simp; omega
          · exact .inl (u8_lit h5)
        generalize r.data.toList[0] = x at *
        clear h1 hp hx2 hd2 hd2s hgl
        rcases hcase with h92 | ⟨h92, hlt, hlt'⟩
        · go_wp2_with fail
          refine (HPp.out _ (HC.out _ Gg.out)).mono ?_
          rintro e1 w2 ⟨q, hq, rfl, g2⟩
          have G2 := Lib.hid (Gr.trans Gg.out g2)
          have B2 := Lib.hid (Bld.gr' Bl.out g2)
          have Z2 : Hid (w.heap.size + 1 ≤ w2.heap.size) := Lib.hid (Nat.le_trans Z.out g2.size)
          have Hq := Lib.hid hq
          have Hqs : Hid (q.size ≤ 1) := Lib.hid (by have h3 := Hgl.out; rw [← sizeL, hq]; omega)
          clear g2 Gg Bl Z hq HPp
          go_wp2_with fail
          refine (bld_string q B2.out (by have := Hqs.out; omega) (by have := Z2.out; omega)).mono ?_
          rintro e2 w3 ⟨rfl, hl3, hb3, _⟩
          have G3 := Lib.hid (Gr.below' G2.out hb3)
          have B3 := Lib.hid hl3
          have Z3 : Hid (w.heap.size + 1 ≤ w3.heap.size) := Lib.hid (Nat.le_trans Z2.out hb3.size)
          clear hl3 hb3 G2 B2 Z2
          go_wp2_with fail
          go_roundw
          case rel =>
            have e3 := Hqs.out
            have e4 := Hds.out
            exact ⟨r.extract 1 r.size, acc ++ q.data.toList, f, rfl, by omega, by rw [List.length_append, sizeL]; omega, B3.out, G3.out, Z3.out, Lib.hid (by rw [hR.out, hE.out, Hd.out, Hq.out, List.append_assoc])⟩
          case measure => have e4 := Hds.out; simp only [strLen]; omega
        · go_wp2_with fail
          refine (HPp.out _ (HC.out _ Gg.out)).mono ?_
          rintro e1 w2 ⟨q, hq, rfl, g2⟩
          have G2 := Lib.hid (Gr.trans Gg.out g2)
          have B2 := Lib.hid (Bld.gr' Bl.out g2)
          have Z2 : Hid (w.heap.size + 1 ≤ w2.heap.size) := Lib.hid (Nat.le_trans Z.out g2.size)
          have Hq := Lib.hid hq
          have Hqs : Hid (q.size ≤ 1) := Lib.hid (by have h3 := Hgl.out; rw [← sizeL, hq]; omega)
          clear g2 Gg Bl Z hq HPp
          go_wp2_with fail
          refine (bld_string q B2.out (by have := Hqs.out; omega) (by have := Z2.out; omega)).mono ?_
          rintro e2 w3 ⟨rfl, hl3, hb3, _⟩
          have G3 := Lib.hid (Gr.below' G2.out hb3)
          have B3 := Lib.hid hl3
          have Z3 : Hid (w.heap.size + 1 ≤ w3.heap.size) := Lib.hid (Nat.le_trans Z2.out hb3.size)
          clear hl3 hb3 G2 B2 Z2
          go_wp2_with fail
          go_roundw
          case rel =>
            have e3 := Hqs.out
            have e4 := Hds.out
            exact ⟨r.extract 1 r.size, acc ++ q.data.toList, f, rfl, by omega, by rw [List.length_append, sizeL]; omega, B3.out, G3.out, Z3.out, Lib.hid (by rw [hR.out, hE.out, Hd.out, Hq.out, List.append_assoc])⟩
          case measure => have e4 := Hds.out; simp only [strLen]; omega
    · have E : Hid (R = acc) := Lib.hid (by rw [hR.out, show r.data.toList = [] from List.length_eq_zero_iff.1 (by rw [sizeL]; omega), eachL_nil, List.append_nil])
      have hr0 : r.size = 0 := by omega
      have hc0 : decide (0 < r.size) = false := by rw [hr0]; rfl
      clear hR h0 hr0
      go_wp2_with fail
      refine (bld_text Bl.out (by have := Z.out; omega)).mono ?_
      rintro e2 w3 ⟨rfl, hb3⟩
      have G3 := Lib.hid (Gr.below' Gg.out hb3)
      clear hb3
      go_wp2
      go_ret
      exact ⟨_, by rw [E.out], rfl, G3.out⟩
def plL (l : List UInt8) : List UInt8 := eachL plG l.length l
set_option maxRecDepth 100000 in
theorem plain39 (s : ByteArray) (hs : s.size ≤ 140737488351232) (w : World) : Calls Tryd.prog 79 #[.string s, .int .u8 39] w fun e w' => ∃ q : ByteArray, q.data.toList = plL s.data.toList ∧ e = .returned (.string q) ∧ Gr w w' := by
  have hR : plL s.data.toList = eachL plG s.size s.data.toList := by unfold plL; rw [sizeL]
  have hmf : ∀ (fn : Fn) (first cap : Array Value) (w : World), (Instr.makeFunc fn first cap).run Tryd.prog w = .ok (.func fn first cap) w := fun _ _ _ _ => rfl
  have HE := Lib.hid (each_pl plG plG_le (pl_piece w.heap.size) s hs (w.alloc (.cells #[.int .u8 39] 5)) (by simp) (by rw [(cellsOf (heap_alloc_new w _)).1]; rfl))
  rw [hR]
  clear hR
  go_enter Tryd.func79, Tryd.ntmps79
  go_wp2_with fail
  refine HE.out.mono ?_
  rintro e w2 ⟨q, hq, rfl, g⟩
  go_wp2
  go_ret
  exact ⟨q, hq, rfl, ((Gr.refl w).alloc _).trans g⟩
end Go.Proofs.YtaoehbnjipegoaaDoor
