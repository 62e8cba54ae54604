/- The reference's rows of characters: Runes, Write, SameInts. -/
import Derived.Test.YtlacfknoanjlpaaDoorCROne
namespace Go.Proofs.YtlacfknoanjlpaaDoor
open Go.RowKit Go.Shelf
def strSz : Value → Nat
  | .string s => s.size
  | _ => 0
set_option maxRecDepth 100000 in
set_option maxHeartbeats 4000000 in
theorem runes_r (s : ByteArray) (hs : s.size ≤ 140000) (w : World) : Calls Tryd.prog 45 #[.string s] w (PtsPost (runesL s.data.toList) w) := by
  have hrl := runesL_len s.data.toList
  rw [sizeL] at hrl
  have H0 : Hid ((runesL s.data.toList) = [] ++ runesL s.data.toList) := Lib.hid rfl
  obtain ⟨i0, hi, hz0, hz1, hz2⟩ := info_parts infoInt
  generalize hR : runesL s.data.toList = R at *
  have HR := Lib.hid hR
  clear hR
  go_enter Tryd.func45, Tryd.ntmps45
  go_wp2_with fail
  go_loopw [0, 3] (fun sv v wr => ∃ (b : ByteArray) (acc : List Int), sv = .string b ∧ b.size ≤ s.size ∧ OwnI wr w.heap.size v acc ∧ Gr w wr ∧ Hid (R = acc ++ runesL b.data.toList)) (fun sv _ _ => strSz sv)
  case atStart => exact ⟨s, [], rfl, Nat.le_refl _, World.ownsRow_nil _ _ _ _, Gr.refl w, Lib.hid (by rw [HR.out]; rfl)⟩
  case round =>
    obtain ⟨b, acc, rfl, hbs, hown, hg, hRR⟩ := hrel
    clear H0
    have Hown := Lib.hid hown
    obtain ⟨ao, cap, rfl⟩ := ownsRow_shape hown
    have hal : acc.length ≤ 140000 := by
      have := congrArg List.length hRR.out
      rw [List.length_append] at this
      omega
    by_cases h0 : 0 < b.size
    · have hne : b.data.toList ≠ [] := by
        intro h; have := congrArg List.length h; rw [sizeL, List.length_nil] at this; omega
      have HF := Lib.hid (fun w => first_r b w)
      have hlen := firstL_len b.data.toList
      rw [sizeL] at hlen
      by_cases hn : (firstL b.data.toList).2 = 0
      · have HE : Hid (R = acc) := Lib.hid (by rw [hRR.out, runesL_no hne hn, List.append_nil])
        rw [hn] at HF
        have Hg := Lib.hid hg
        clear hn hown hg hRR hlen
        go_wp2_with (go_at_call 43; refine (HF.out _).mono ?_; rintro e w3 ⟨rfl, rfl⟩)
        go_ret
        exact ⟨_, rfl, by have := Hown.out; rw [← HE.out] at this ⊢; exact this, Hg.out⟩
      · have HE : Hid (R = (acc ++ [(firstL b.data.toList).1]) ++ runesL (b.extract (firstL b.data.toList).2 b.size).data.toList) := Lib.hid (by
          rw [hRR.out, runesL_on hne hn, dropE, List.append_assoc]; rfl)
        have hnb : (((firstL b.data.toList).2 : Int) == 0) = false := beq_eq_false_iff_ne.2 (by omega)
        have Hg := Lib.hid hg
        clear hown hg hRR
        generalize (firstL b.data.toList).1 = c at *
        generalize (firstL b.data.toList).2 = n at *
        have hex : (b.extract n b.size).size = b.size - n := by simp
        have Hw := Lib.hid (Gr.size Hg.out)
        go_wp2_with (first | (go_at_call 43; refine (HF.out _).mono ?_; rintro e w3 ⟨rfl, rfl⟩) | (at_builtin; refine wpList_append_own _ rfl (.tmp 17) (.tmp 19) 25 rfl w.heap.size 3 i0 (.int .i64 0) 1 8 Tryd.underlying25 hi hz0 hz1 hz2 rfl (by decide) _ _ _ rfl (Hown.out.alloc _) ⟨wr.heap.size, 0, none⟩ 1 1 [.int .i64 c] rfl rfl ?c1 ?c2 ?c3 ?c4 ?c5 ?_))
        case c1 =>
          intro j u hj
          match j, hj with
          | 0, hj => simp at hj; subst hj; simp [Addr.add]
        case c2 => intro u hu; simp at hu; subst hu; rfl
        case c3 => unfold maxLen; omega
        case c4 => omega
        case c5 => have := Hw.out; simp; omega
        intro v' w1 hown' hgrow _
        have Hown' := Lib.hid hown'
        have hg1 : Hid (Gr w w1) := Lib.hid (Below.grown (Gr.alloc Hg.out _) hgrow (Nat.le_trans Hw.out (by simp)) (fun k hk => (Hown.out.lt k hk).1))
        clear hown' hgrow
        go_wp2_with fail
        go_roundw
        case rel => exact ⟨b.extract n b.size, acc ++ [c], rfl, by rw [hex]; omega, by
          show World.ownsRow _ _ _ _ _ (acc ++ [c]).length ((acc ++ [c]).map intV)
          rw [List.length_append, List.map_append]; exact Hown'.out, hg1.out, HE⟩
        case measure => simp only [strSz, hex]; omega
    · have HE : Hid (R = acc) := Lib.hid (by rw [hRR.out, nil_of_zero b h0, runesL_nil, List.append_nil])
      have Hg := Lib.hid hg
      have hb0 : b.size = 0 := by omega
      clear hown hg hRR
      go_wp2
      go_ret
      exact ⟨_, rfl, by have := Hown.out; rw [← HE.out] at this ⊢; exact this, Hg.out⟩
theorem infoByte : (Tryd.prog.info? 5).map (fun i => (i.zero, i.size, i.bytes)) = some (some (.int .u8 0), 1, 1) := by kernel_rfl
abbrev OwnB (w : World) (base : Nat) (v : Value) (l : List UInt8) : Prop := w.ownsRowF base 5 1 v l.length (Lib.byteCells l)
theorem OwnB.gr {w w' : World} {base : Nat} {v : Value} {l : List UInt8} (h : OwnB w base v l) (hg : Gr w w') : OwnB w' base v l := h.kept hg.grownBy (by cases hv : v.ownBlock <;> simp)
theorem OwnB.back {w : World} {base : Nat} {v : Value} {l : List UInt8} (h : OwnB w base v l) : (convert 59 9 v).run Tryd.prog w = .ok (.string ⟨l.toArray⟩) w := by
  rcases h.2 with ⟨rfl, h0⟩ | ⟨g, cap, cur, fz, rfl, hb, hg, hrest⟩
  · have : l = [] := List.eq_nil_of_length_eq_zero h0
    subst this
    simp [convert, run_underlying Tryd.underlying59, run_underlying Tryd.underlying5, run_underlying Tryd.underlying9, Conv.bytesToString]
    rfl
  · refine run_convert_bytes_back _ 59 9 5 ⟨g, 0, none⟩ cap l Tryd.underlying59 Tryd.underlying5 Tryd.underlying9 (fun j hj => ?_)
    have := h.cells rfl j (.int .u8 (l[j].toNat : Int)) (by unfold Lib.byteCells; rw [List.getElem?_map, List.getElem?_eq_getElem hj]; rfl)
    exact this
theorem OwnB.lt {w : World} {base : Nat} {v : Value} {l : List UInt8} (h : OwnB w base v l) : ∀ k, v.ownBlock = some k → base ≤ k := fun k hk => (World.ownsRowF.lt h k hk).1
theorem OwnB.shape {w : World} {base : Nat} {v : Value} {l : List UInt8} (h : OwnB w base v l) : ∃ ao cap, v = .slice ao l.length cap := by
  rcases h.2 with ⟨rfl, h0⟩ | ⟨g, cap, cur, fz, rfl, _⟩
  · exact ⟨_, _, by rw [h0]⟩
  · exact ⟨_, _, rfl⟩
theorem writeL_len (cs : List Int) : (writeL cs).length ≤ 4 * cs.length := by
  induction cs with
  | nil => simp [writeL]
  | cons c cs ih => rw [writeL_cons, List.length_append, List.length_cons]; have := (oneL_len c).2; omega
set_option maxRecDepth 100000 in
set_option maxHeartbeats 4000000 in
theorem write_r (sv : Value) (cs : List Int) (hch : cs.all isCh = true) (hlen : cs.length ≤ 1400000) (w : World) (hv : IntsIs w sv cs) : Calls Tryd.prog 56 #[sv] w fun e w' => e = .returned (.string ⟨(writeL cs).toArray⟩) ∧ Gr w w' := by
  obtain ⟨ao, cap, rfl, hc⟩ := hv
  have hwl := writeL_len cs
  have HD : Hid (∀ k (h : k < cs.length), writeL (cs.drop k) = oneL cs[k] ++ writeL (cs.drop (k + 1)) ∧ isCh cs[k] = true) := Lib.hid (fun k h => by
    rw [List.drop_eq_getElem_cons h, writeL_cons]; exact ⟨rfl, List.all_eq_true.1 hch _ (List.getElem_mem h)⟩)
  have HN : Hid (writeL (cs.drop cs.length) = []) := Lib.hid (by rw [List.drop_length]; rfl)
  have H0 : Hid (writeL cs = [] ++ writeL (cs.drop 0)) := Lib.hid rfl
  have Hc := Lib.hid hc
  clear hc hch
  obtain ⟨i0, hi, hz0, hz1, hz2⟩ := info_parts infoByte
  generalize writeL cs = W at *
  go_enter Tryd.func56, Tryd.ntmps56
  go_wp2_with fail
  go_loopw [3, 4] (fun v iv wr => ∃ (k : Nat) (acc : List UInt8), k ≤ cs.length ∧ iv = .int .i64 k ∧ OwnB wr w.heap.size v acc ∧ Gr w wr ∧ Hid (W = acc ++ writeL (cs.drop k))) (fun _ iv _ => cs.length - (intOf iv).toNat)
  case atStart => exact ⟨0, [], Nat.zero_le _, rfl, World.ownsRowF_nil _ _ _ _, Gr.refl w, H0⟩
  case round =>
    obtain ⟨k, acc, hk, rfl, hown, hg, hW⟩ := hrel
    clear H0
    have Hown := Lib.hid hown
    obtain ⟨vo, vcap, rfl⟩ := hown.shape
    have hal : acc.length ≤ 5600000 := by
      have := congrArg List.length hW.out
      rw [List.length_append] at this
      omega
    by_cases hlt : k < cs.length
    · obtain ⟨b, o, rfl, hb, hcell0⟩ := Hc.out k hlt
      have hcell : wr.cell? ⟨b, o + k, none⟩ = some (.int .i64 cs[k]) := by rw [hg.cell hb]; exact hcell0
      obtain ⟨hd, hch⟩ := HD.out k hlt
      have HE : Hid (W = (acc ++ oneL cs[k]) ++ writeL (cs.drop (k + 1))) := Lib.hid (by rw [hW.out, hd, List.append_assoc])
      have HO := Lib.hid (fun w => one_r cs[k] hch w)
      have hol := oneL_len cs[k]
      have Hg := Lib.hid hg
      clear hd hch hcell0 hown hg hW
      generalize cs[k] = c at *
      generalize oneL c = x at *
      have hxs : (⟨x.toArray⟩ : ByteArray).size = x.length := by show x.toArray.size = _; simp
      go_wp2_with (first | (go_at_call 91; refine (HO.out _).mono ?_; rintro e w3 ⟨rfl, g3⟩; have Hw := Lib.hid (Gr.size (Hg.out.trans g3)); have Hown3 := Lib.hid (OwnB.gr Hown.out g3); have Hg3 := Lib.hid (Gr.trans Hg.out g3)) | (at_builtin; refine Lib.wpList_append_own_stringF _ rfl (.tmp 11) (.tmp 16) 59 9 rfl w.heap.size 5 i0 Tryd.underlying59 Tryd.underlying9 hi hz0 hz1 hz2 _ _ _ rfl Hown3.out ⟨x.toArray⟩ rfl ?c1 ?c2 ?c3 ?_))
      case c1 => rw [hxs]; unfold maxLen; omega
      case c2 => rw [hxs]; omega
      case c3 => exact Hw.out
      intro v' w1 hown' hgrow _
      have Hown' : Hid (OwnB w1 w.heap.size v' (acc ++ x)) := Lib.hid (by
        show World.ownsRowF _ _ _ _ _ (acc ++ x).length (Lib.byteCells (acc ++ x))
        rw [List.length_append, Lib.byteCells_append, ← hxs]; exact hown')
      have hg1 : Hid (Gr w w1) := Lib.hid (Below.grown Hg3.out hgrow Hw.out (fun k hk => Hown3.out.lt k hk))
      clear hown' hgrow
      go_wp2_with fail
      go_roundw
      case rel => exact ⟨k + 1, acc ++ x, by omega, by go_num, Hown'.out, hg1.out, HE⟩
      case measure => simp [intOf]; omega
    · obtain rfl : k = cs.length := by omega
      have HE : Hid (W = acc) := Lib.hid (by rw [hW.out, HN.out, List.append_nil])
      have hback := hown.back
      have Hg := Lib.hid hg
      clear hown hg hW
      go_wp2
      go_ret
      exact ⟨by rw [HE.out]; rfl, Hg.out⟩
theorem ints_bound {w : World} {l : List Int} {k : Nat} {ao : Option Addr} (h : ∀ k (h : k < l.length), ∃ b o, ao = some ⟨b, o, none⟩ ∧ b < w.heap.size ∧ w.cell? ⟨b, o + k, none⟩ = some (.int .i64 l[k])) (hk : k < l.length) :
    ∃ b o, ao = some ⟨b, o, none⟩ ∧ w.cell? ⟨b, o + k, none⟩ = some (.int .i64 l[k]) := by
  obtain ⟨b, o, e, _, h⟩ := h k hk
  exact ⟨b, o, e, h⟩
def sameR (Q : Bool) (l m : List Int) (k : Nat) : Prop := Q = decide (l.drop k = m.drop k)
set_option maxRecDepth 100000 in
set_option maxHeartbeats 4000000 in
theorem same_r (a b : Value) (l m : List Int) (hbd : l.length ≤ 1000000000) (w : World) (ha : IntsIs w a l) (hb : IntsIs w b m) : Calls Tryd.prog 16 #[a, b] w fun e w' => e = .returned (.bool (decide (l = m))) ∧ Gr w w' := by
  obtain ⟨ao, acap, rfl, hac⟩ := ha
  obtain ⟨bo, bcap, rfl, hbc⟩ := hb
  by_cases hlen : l.length = m.length
  · have H0 : Hid (sameR (decide (l = m)) l m 0) := Lib.hid rfl
    have Hac := Lib.hid hac
    have Hbc := Lib.hid hbc
    have hlb : ((l.length : Int) == (m.length : Int)) = true := by rw [hlen]; simp
    clear hac hbc
    generalize decide (l = m) = Q at *
    go_enter Tryd.func16, Tryd.ntmps16
    go_wp2_with fail
    go_loopw [5] (fun iv wr => ∃ k : Nat, k ≤ l.length ∧ iv = .int .i64 k ∧ (∃ q, wr = w.drewN q) ∧ Hid (sameR Q l m k)) (fun iv _ => l.length - (intOf iv).toNat)
    case atStart => exact ⟨0, Nat.zero_le _, rfl, ⟨0, rfl⟩, H0⟩
    case round =>
      obtain ⟨k, hk, rfl, ⟨q, rfl⟩, hS⟩ := hrel
      clear H0
      by_cases hlt : k < l.length
      · obtain ⟨b1, o1, rfl, hc1⟩ := ints_bound Hac.out hlt
        obtain ⟨b2, o2, rfl, hc2⟩ := ints_bound Hbc.out (show k < m.length by omega)
        have hS' : Q = decide (l.drop k = m.drop k) := hS.out
        rw [List.drop_eq_getElem_cons hlt, List.drop_eq_getElem_cons (show k < m.length by omega)] at hS'
        by_cases he : l[k] = m[k]
        · have HS2 : Hid (sameR Q l m (k + 1)) := Lib.hid (by
            unfold sameR; rw [hS', he]; exact decide_eq_decide.2 ⟨fun h => (List.cons.inj h).2, fun h => by rw [h]⟩)
          have heb : (l[k] == m[k]) = true := by simp [he]
          clear hS hS'
          generalize l[k] = x at *
          generalize m[k] = y at *
          clear he
          have hlt' := Lib.hid hlt
          go_wp2_with fail
          go_quiet (fail)
          have hlt2 := hlt'.out
          go_wp2_with fail
          go_roundw
          case rel => exact ⟨k + 1, by omega, by go_num, ⟨_, rfl⟩, HS2⟩
          case measure => simp [intOf]; omega
        · have HE : Hid (Q = false) := Lib.hid (by rw [hS']; exact decide_eq_false (fun h => he (List.cons.inj h).1))
          have heb : (l[k] == m[k]) = false := by simp [he]
          clear hS hS' he
          generalize l[k] = x at *
          generalize m[k] = y at *
          go_wp2_with fail
          go_quiet (fail)
          go_wp2
          go_ret
          exact ⟨by rw [HE.out]; rfl, ((Gr.refl w).drewN _).drewN _⟩
      · obtain rfl : k = l.length := by omega
        have HE : Hid (Q = true) := Lib.hid (by
          have := hS.out
          unfold sameR at this
          rw [this, List.drop_length, hlen, List.drop_length]; rfl)
        clear hS
        go_wp2
        go_ret
        exact ⟨by rw [HE.out]; rfl, (Gr.refl w).drewN q⟩
  · have HE : Hid (decide (l = m) = false) := Lib.hid (by simp; intro h; exact hlen (by rw [h]))
    have hlb : ((l.length : Int) == (m.length : Int)) = false := beq_eq_false_iff_ne.2 (by omega)
    go_enter Tryd.func16, Tryd.ntmps16
    go_wp2
    go_ret
    exact ⟨by rw [HE.out]; rfl, Gr.refl w⟩
end Go.Proofs.YtlacfknoanjlpaaDoor
