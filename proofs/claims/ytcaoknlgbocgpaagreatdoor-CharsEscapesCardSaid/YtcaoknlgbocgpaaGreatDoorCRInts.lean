/- The reference's rows of characters: Runes, Write, SameInts. -/
import Derived.Test.YtcaoknlgbocgpaaGreatDoorCROne
namespace Go.Proofs.YtcaoknlgbocgpaaGreatDoor
open Go.RowKit Go.Shelf
def strSz : Value → Nat
  | .string s => s.size
  | _ => 0
set_option maxRecDepth 100000 in
set_option maxHeartbeats 4000000 in
theorem runes_r (s : ByteArray) (hs : s.size ≤ 140000) (w : World) : Calls Tryz.prog 23 #[.string s] w (PtsPost (runesL s.data.toList) w) := by
  have hrl := runesL_len s.data.toList
  rw [sizeL] at hrl
  have H0 : Hid ((runesL s.data.toList) = [] ++ runesL s.data.toList) := Lib.hid rfl
  obtain ⟨i0, hi, hz0, hz1, hz2⟩ := info_parts infoInt
  generalize hR : runesL s.data.toList = R at *
  have HR := Lib.hid hR
  clear hR
  go_enter Tryz.func23, Tryz.ntmps23
  go_wp2_with fail
  go_loopw [0, 3] (fun sv v wr => ∃ (b : ByteArray) (acc : List Int), sv = .string b ∧ b.size ≤ s.size ∧ OwnI wr w.heap.size v acc ∧ Gr w wr ∧ Hid (R = acc ++ runesL b.data.toList)) (fun sv _ _ => strSz sv)
  case atStart => exact ⟨s, [], rfl, Nat.le_refl _, World.ownsRow_nil _ _ _ _, Gr.refl w, Lib.hid (by rw [HR.out]; rfl)⟩
  case round =>
    obtain ⟨b, acc, rfl, hbs, hown, hg, hRR⟩ := hrel
    clear H0
    have Hown := Lib.hid hown
    obtain ⟨ao, cap, rfl⟩ := ownsRow_shape hown
    have hal : acc.length ≤ 140000 := by
      have := congrArg List.length hRR.out
      rw [List.length_append] at this
      omega
    by_cases h0 : 0 < b.size
    · have hne : b.data.toList ≠ [] := by
        intro h; have := congrArg List.length h; rw [sizeL, List.length_nil] at this; omega
      have HF := Lib.hid (fun w => first_r b w)
      have hlen := firstL_len b.data.toList
      rw [sizeL] at hlen
      by_cases hn : (firstL b.data.toList).2 = 0
      · have HE : Hid (R = acc) := Lib.hid (by rw [hRR.out, runesL_no hne hn, List.append_nil])
        rw [hn] at HF
        have Hg := Lib.hid hg
        clear hn hown hg hRR hlen
        go_wp2_with (go_at_call 51; refine (HF.out _).mono ?_; rintro e w3 ⟨rfl, rfl⟩)
        go_ret
        exact ⟨_, rfl, by have := Hown.out; rw [← HE.out] at this ⊢; exact this, Hg.out⟩
      · have HE : Hid (R = (acc ++ [(firstL b.data.toList).1]) ++ runesL (b.extract (firstL b.data.toList).2 b.size).data.toList) := Lib.hid (by
          rw [hRR.out, runesL_on hne hn, dropE, List.append_assoc]; rfl)
        have hnb : (((firstL b.data.toList).2 : Int) == 0) = false := beq_eq_false_iff_ne.2 (by omega)
        have Hg := Lib.hid hg
        clear hown hg hRR
        generalize (firstL b.data.toList).1 = c at *
        generalize (firstL b.data.toList).2 = n at *
        have hex : (b.extract n b.size).size = b.size - n := by simp
        have Hw := Lib.hid (Gr.size Hg.out)
        go_wp2_with (first | (go_at_call 51; refine (HF.out _).mono ?_; rintro e w3 ⟨rfl, rfl⟩) | (at_builtin; refine wpList_append_own _ rfl (.tmp 17) (.tmp 19) 36 rfl w.heap.size 3 i0 (.int .i64 0) 1 8 Tryz.underlying36 hi hz0 hz1 hz2 rfl (by decide) _ _ _ rfl (Hown.out.alloc _) ⟨wr.heap.size, 0, none⟩ 1 1 [.int .i64 c] rfl rfl ?c1 ?c2 ?c3 ?c4 ?c5 ?_))
        case c1 =>
          intro j u hj
          match j, hj with
          | 0, hj => simp at hj; subst hj; simp [Addr.add]
        case c2 => intro u hu; simp at hu; subst hu; rfl
        case c3 => unfold maxLen; omega
        case c4 => omega
        case c5 => have := Hw.out; simp; omega
        intro v' w1 hown' hgrow _
        have Hown' := Lib.hid hown'
        have hg1 : Hid (Gr w w1) := Lib.hid (Below.grown (Gr.alloc Hg.out _) hgrow (Nat.le_trans Hw.out (by simp)) (fun k hk => (Hown.out.lt k hk).1))
        clear hown' hgrow
        go_wp2_with fail
        go_roundw
        case rel => exact ⟨b.extract n b.size, acc ++ [c], rfl, by rw [hex]; omega, by
          show World.ownsRow _ _ _ _ _ (acc ++ [c]).length ((acc ++ [c]).map intV)
          rw [List.length_append, List.map_append]; exact Hown'.out, hg1.out, HE⟩
        case measure => simp only [strSz, hex]; omega
    · have HE : Hid (R = acc) := Lib.hid (by rw [hRR.out, nil_of_zero b h0, runesL_nil, List.append_nil])
      have Hg := Lib.hid hg
      have hb0 : b.size = 0 := by omega
      clear hown hg hRR
      go_wp2
      go_ret
      exact ⟨_, rfl, by have := Hown.out; rw [← HE.out] at this ⊢; exact this, Hg.out⟩
theorem infoByte : (Tryz.prog.info? 5).map (fun i => (i.zero, i.size, i.bytes)) = some (some (.int .u8 0), 1, 1) := by kernel_rfl
abbrev OwnB (w : World) (base : Nat) (v : Value) (l : List UInt8) : Prop := w.ownsRowF base 5 1 v l.length (Lib.byteCells l)
theorem OwnB.gr {w w' : World} {base : Nat} {v : Value} {l : List UInt8} (h : OwnB w base v l) (hg : Gr w w') : OwnB w' base v l := h.kept hg.grownBy (by cases hv : v.ownBlock <;> simp)
theorem OwnB.back {w : World} {base : Nat} {v : Value} {l : List UInt8} (h : OwnB w base v l) : (convert 39 9 v).run Tryz.prog w = .ok (.string ⟨l.toArray⟩) w := by
  rcases h.2 with ⟨rfl, h0⟩ | ⟨g, cap, cur, fz, rfl, hb, hg, hrest⟩
  · have : l = [] := List.eq_nil_of_length_eq_zero h0
    subst this
    simp [convert, run_underlying Tryz.underlying39, run_underlying Tryz.underlying5, run_underlying Tryz.underlying9, Conv.bytesToString]
    rfl
  · refine run_convert_bytes_back _ 39 9 5 ⟨g, 0, none⟩ cap l Tryz.underlying39 Tryz.underlying5 Tryz.underlying9 (fun j hj => ?_)
    have := h.cells rfl j (.int .u8 (l[j].toNat : Int)) (by unfold Lib.byteCells; rw [List.getElem?_map, List.getElem?_eq_getElem hj]; rfl)
    exact this
theorem OwnB.lt {w : World} {base : Nat} {v : Value} {l : List UInt8} (h : OwnB w base v l) : ∀ k, v.ownBlock = some k → base ≤ k := fun k hk => (World.ownsRowF.lt h k hk).1
theorem OwnB.shape {w : World} {base : Nat} {v : Value} {l : List UInt8} (h : OwnB w base v l) : ∃ ao cap, v = .slice ao l.length cap := by
  rcases h.2 with ⟨rfl, h0⟩ | ⟨g, cap, cur, fz, rfl, _⟩
  · exact ⟨_, _, by rw [h0]⟩
  · exact ⟨_, _, rfl⟩
theorem writeL_len (cs : List Int) : (writeL cs).length ≤ 4 * cs.length := by
  induction cs with
  | nil => simp [writeL]
  | cons c cs ih => rw [writeL_cons, List.length_append, List.length_cons]; have := (oneL_len c).2; omega
theorem ints_bound {w : World} {l : List Int} {k : Nat} {ao : Option Addr} (h : ∀ k (h : k < l.length), ∃ b o, ao = some ⟨b, o, none⟩ ∧ b < w.heap.size ∧ w.cell? ⟨b, o + k, none⟩ = some (.int .i64 l[k])) (hk : k < l.length) :
    ∃ b o, ao = some ⟨b, o, none⟩ ∧ w.cell? ⟨b, o + k, none⟩ = some (.int .i64 l[k]) := by
  obtain ⟨b, o, e, _, h⟩ := h k hk
  exact ⟨b, o, e, h⟩
def sameR (Q : Bool) (l m : List Int) (k : Nat) : Prop := Q = decide (l.drop k = m.drop k)
end Go.Proofs.YtcaoknlgbocgpaaGreatDoor
