/- The program's Points, Text, Reverse; the reference's. -/
import Derived.Test.YtlacfknoanjlpaaDoorCRInts
import Derived.Test.YtlacfknoanjlpaaDoorCMap
namespace Go.Proofs.YtlacfknoanjlpaaDoor
open Go.RowKit Go.Shelf
/-- the answer with a row of characters -/
def ansP (l : List UInt8) : List Int × Int := if chkE l = 0 then (runesL l, 0) else ([], chkE l)
theorem ansP_no {l : List UInt8} (h : ¬ chkE l = 0) : ansP l = ([], chkE l) := if_neg h
theorem ansP_ok {l : List UInt8} (h : chkE l = 0) : ansP l = (runesL l, 0) := if_pos h
def PtsE (a : List Int × Int) (w : World) (e : Ending) (w' : World) : Prop := ∃ v, e = .returned (.tuple #[v, .int .i64 a.2]) ∧ OwnI w' w.heap.size v a.1 ∧ Gr w w'
theorem OwnI.down' {w : World} {a b : Nat} {v : Value} {l : List Int} (h : OwnI w b v l) (hab : a ≤ b) : OwnI w a v l :=
  ⟨h.1, h.2.imp id (fun ⟨g, cp, cur, h0, h1, h2⟩ => ⟨g, cp, cur, h0, Nat.le_trans hab h1, h2⟩)⟩
set_option maxRecDepth 100000 in
theorem pointsF_p (s : ByteArray) (w : World) : Calls Tryd.prog 15 #[.string s] w (PtsE (ansP s.data.toList) w) := by
  have HC := Lib.hid (check1 s w _ 9 (0, 0) rfl)
  by_cases h : chkE s.data.toList = 0
  · obtain ⟨h1, h2⟩ := chkE_zero h
    rw [sizeL] at h1
    have HM := Lib.hid (fun w => points_p s (by omega) h2 w)
    rw [h] at HC
    have HE := Lib.hid (ansP_ok h)
    clear h h1 h2
    generalize runesL s.data.toList = R at *
    go_enter Tryd.func15, Tryd.ntmps15
    go_wp2_with (first | (go_at_call 47; refine HC.out.mono ?_; rintro e w3 ⟨rfl, g3⟩) | (go_at_call 48; refine (HM.out _).mono ?_; rintro e w4 ⟨v, rfl, ho, g4⟩; have Ho := Lib.hid ho; clear ho))
    go_ret2
    exact ⟨v, by rw [HE.out]; rfl, by rw [HE.out]; exact Ho.out.down' (Gr.size g3), Gr.trans g3 g4⟩
  · have HE := Lib.hid (ansP_no h)
    have hb : (chkE s.data.toList == 0) = false := beq_eq_false_iff_ne.2 h
    clear h
    generalize chkE s.data.toList = E at *
    go_enter Tryd.func15, Tryd.ntmps15
    go_wp2_with (go_at_call 47; refine HC.out.mono ?_; rintro e w3 ⟨rfl, g3⟩)
    go_ret2
    exact ⟨.slice none 0 0, by rw [HE.out]; rfl, by rw [HE.out]; exact World.ownsRow_nil _ _ _ _, g3⟩
set_option maxRecDepth 100000 in
theorem pointsF_r (s : ByteArray) (hs : s.size ≤ 140000) (w : World) : Calls Tryd.prog 13 #[.string s] w (PtsE (ansP s.data.toList) w) := by
  have HC := Lib.hid (fun w => checked_r s (by omega) w)
  by_cases h : chkE s.data.toList = 0
  · have HM := Lib.hid (fun w => runes_r s hs w)
    rw [h] at HC
    have HE := Lib.hid (ansP_ok h)
    clear h
    generalize runesL s.data.toList = R at *
    go_enter Tryd.func13, Tryd.ntmps13
    go_wp2_with (first | (go_at_call 44; refine (HC.out _).mono ?_; rintro e w3 ⟨rfl, rfl⟩) | (go_at_call 45; refine (HM.out _).mono ?_; rintro e w4 ⟨v, rfl, ho, g4⟩; have Ho := Lib.hid ho; clear ho))
    go_ret2
    exact ⟨v, by rw [HE.out]; rfl, by rw [HE.out]; exact Ho.out, g4⟩
  · have HE := Lib.hid (ansP_no h)
    have hb : (chkE s.data.toList == 0) = false := beq_eq_false_iff_ne.2 h
    clear h
    generalize chkE s.data.toList = E at *
    go_enter Tryd.func13, Tryd.ntmps13
    go_wp2_with (go_at_call 44; refine (HC.out _).mono ?_; rintro e w3 ⟨rfl, rfl⟩)
    go_ret2
    exact ⟨.slice none 0 0, by rw [HE.out]; rfl, by rw [HE.out]; exact World.ownsRow_nil _ _ _ _, Gr.refl w⟩
/-- the text of a row of numbers -/
def txtL (l : List Int) : List UInt8 × Int := if l.all isCh = true then sizE (writeL l) else ([], 1)
theorem txtL_no {l : List Int} (h : l.all isCh = false) : txtL l = ([], 1) := by unfold txtL; rw [if_neg (by rw [h]; decide)]
theorem txtL_ok {l : List Int} (h : l.all isCh = true) : txtL l = sizE (writeL l) := if_pos h
abbrev TxtQ (a : List UInt8 × Int) (w : World) (e : Ending) (w' : World) : Prop := e = .returned (.tuple #[.string ⟨a.1.toArray⟩, .int .i64 a.2]) ∧ Gr w w'
set_option maxRecDepth 100000 in
set_option maxHeartbeats 4000000 in
theorem text_r (v : Value) (l : List Int) (hl : l.length ≤ 140000) (w : World) (hv : IntsIs w v l) : Calls Tryd.prog 18 #[v] w (TxtQ (txtL l) w) := by
  have hv0 := hv
  obtain ⟨ao, cap, rfl, hc⟩ := hv0
  have Hc := Lib.hid hc
  have Hv := Lib.hid hv
  clear hc hv
  have H0 : Hid ((l.take 0).all isCh = true) := Lib.hid rfl
  have HT : Hid (∀ k (h : k < l.length), (l.take k).all isCh = true → isCh l[k] = true → (l.take (k + 1)).all isCh = true) := Lib.hid (fun k h h1 h2 => by
    rw [List.take_add_one, List.getElem?_eq_getElem h, List.all_append, h1]; simp [h2])
  have HB : Hid (∀ k (h : k < l.length), isCh l[k] = false → txtL l = ([], 1)) := Lib.hid (fun k h h1 => txtL_no (by
    cases ha : l.all isCh
    · rfl
    · rw [List.all_eq_true.1 ha _ (List.getElem_mem h)] at h1; cases h1))
  go_enter Tryd.func18, Tryd.ntmps18
  go_wp2_with fail
  go_loopw [4] (fun iv wr => w = wr ∧ ∃ k : Nat, k ≤ l.length ∧ iv = .int .i64 k ∧ Hid ((l.take k).all isCh = true)) (fun iv _ => l.length - (intOf iv).toNat)
  case atStart => exact ⟨rfl, 0, Nat.zero_le _, rfl, H0⟩
  case round =>
    obtain ⟨rfl, k, hk, rfl, hA⟩ := hrel
    clear H0
    by_cases hlt : k < l.length
    · obtain ⟨b, o, rfl, hcell⟩ := ints_bound Hc.out hlt
      have HP := Lib.hid (fun w => isChar_r l[k] w)
      cases hch : isCh l[k]
      · have HE := Lib.hid (HB.out k hlt hch)
        rw [hch] at HP
        clear hch hA
        generalize l[k] = c at *
        go_wp2_with (go_at_call 54; refine (HP.out _).mono ?_; rintro e w3 ⟨rfl, rfl⟩)
        go_ret2
        exact ⟨by rw [HE.out]; rfl, Gr.refl w⟩
      · have HA2 := Lib.hid (HT.out k hlt hA.out hch)
        rw [hch] at HP
        clear hch hA
        generalize l[k] = c at *
        go_wp2_with (go_at_call 54; refine (HP.out _).mono ?_; rintro e w3 ⟨rfl, rfl⟩)
        go_roundw
        case rel => exact ⟨by trivial, k + 1, by omega, by go_num, HA2⟩
        case measure => simp [intOf]; omega
    · obtain rfl : k = l.length := by omega
      have hall : l.all isCh = true := by have := hA.out; rw [List.take_length] at this; exact this
      have HE := Lib.hid (txtL_ok hall)
      have HW := Lib.hid (write_r _ l hall (by omega) w Hv.out)
      have HS := Lib.hid (fun w => sized_r ⟨(writeL l).toArray⟩ w)
      rw [show (⟨(writeL l).toArray⟩ : ByteArray).data.toList = writeL l by simp] at HS
      clear hall hA
      generalize writeL l = WR at *
      go_wp2_with (first | (go_at_call 56; refine HW.out.mono ?_; rintro e w3 ⟨rfl, g3⟩) | (go_at_call 55; refine (HS.out _).mono ?_; rintro e w4 ⟨rfl, rfl⟩))
      go_ret2
      exact ⟨by rw [HE.out]; rfl, g3⟩
theorem any_all (l : List Int) : l.any (fun c => !isCh c) = !l.all isCh := by
  induction l with
  | nil => rfl
  | cons c l ih => rw [List.any_cons, List.all_cons, ih, Bool.not_and]
theorem contains_any (v : Value) (l : List Int) (hl : l.length ≤ 140000) (w : World) (hv : IntsIs w v l) :
    Calls Tryd.prog 49 #[v, .func (.func 50) #[] #[]] w fun e w' => e = .returned (.bool (!l.all isCh)) ∧ ∃ q, w' = w.drewN q := by
  obtain ⟨ao, cap, rfl, hc⟩ := hv
  by_cases h0 : 0 < l.length
  · obtain ⟨b, o, rfl, hb, _⟩ := hc 0 h0
    have hp : PredAt Tryd.prog 50 #[] intV (fun c => !isCh c) w := fun W x _ => (isNo_p x W).mono fun _ _ ⟨he, hw⟩ => ⟨he, 0, hw.symm⟩
    have := AnyE.slices_ContainsFunc Tryd.laysCf intV (fun c => !isCh c) 50 #[] (enters_of Tryd.func50 (by kernel_rfl) rfl) b o l.length cap l w hp (Nat.le_refl _) (by omega) (fun j hj => by
      obtain ⟨b', o', e, _, h⟩ := hc j hj
      injection e with e
      injection e with e1 e2 _
      subst e1 e2
      rw [h, getElem!_pos l j hj])
    refine this.mono fun e w' ⟨he, hw⟩ => ⟨?_, hw⟩
    rw [he, List.take_length]
    rw [any_all]
  · have : l = [] := List.eq_nil_of_length_eq_zero (by omega)
    subst this
    exact (AnyE.slices_ContainsFunc_empty Tryd.laysCf ao cap _ w).mono fun e w' ⟨he, hw⟩ => ⟨he, 0, hw⟩
end Go.Proofs.YtlacfknoanjlpaaDoor
