/- The program's forms of texts: the closures, smalls, folds, replaced, Lower, Upper, Fold, Title. -/
import Derived.Test.YtcaoknlgbocgpaaGreatDoorCChr
import Derived.Test.YtcaoknlgbocgpaaGreatDoorCMap
namespace Go.Proofs.YtcaoknlgbocgpaaGreatDoor
open Go.RowKit Go.Shelf
theorem writeL_len16 (l : List Int) (h : l.length ≤ 4) : (writeL l).length ≤ 16 := by
  have : ∀ l : List Int, (writeL l).length ≤ 4 * l.length := by
    intro l
    induction l with
    | nil => simp [writeL]
    | cons c l ih => rw [writeL_cons, List.length_append, List.length_cons]; have := (oneL_len c).2; omega
  have := this l
  omega
theorem foldC_len (c : Int) : (foldC c).length ≤ 3 := by
  unfold foldC
  repeat' split
  all_goals simp
theorem capC_len (c : Int) : (capC c).length ≤ 3 := by
  unfold capC
  repeat' split
  all_goals simp
set_option maxRecDepth 100000 in
theorem smalls1_p (p : Nat) (c : Int) (hc : isCh c = true) (w : World) : Calls Tryz.prog 72 #[.int .i64 p, .int .i32 c] w fun e w' => e = .returned (.string ⟨(oneL (smallC c)).toArray⟩) ∧ Gr w w' := by
  have hb := isCh_true.1 hc
  have H := Lib.hid (fun w => small_p c (by omega) (by omega) w)
  have He := Lib.hid (encode_one (small_ch hc))
  clear hc hb
  generalize smallC c = d at *
  go_enter Tryz.func72, Tryz.ntmps72
  go_wp2_with (go_at_call 47; refine (H.out _).mono ?_; rintro e w3 ⟨rfl, rfl⟩)
  go_ret
  exact ⟨by rw [← He.out]; rfl, Gr.refl w⟩
set_option maxRecDepth 100000 in
theorem upper1_p (p : Nat) (c : Int) (hc : isCh c = true) (w : World) : Calls Tryz.prog 42 #[.int .i64 p, .int .i32 c] w fun e w' => e = .returned (.string ⟨(writeL (capC c)).toArray⟩) ∧ Gr w w' := by
  have H := Lib.hid (fun w => capital_p c hc w)
  clear hc
  generalize writeL (capC c) = d at *
  go_enter Tryz.func42, Tryz.ntmps42
  go_wp2_with (go_at_call 43; refine (H.out _).mono ?_; rintro e w3 ⟨rfl, g3⟩)
  go_ret
  exact ⟨rfl, g3⟩
set_option maxRecDepth 100000 in
theorem fold1_p (p : Nat) (c : Int) (hc : isCh c = true) (w : World) : Calls Tryz.prog 40 #[.int .i64 p, .int .i32 c] w fun e w' => e = .returned (.string ⟨(writeL (foldC c)).toArray⟩) ∧ Gr w w' := by
  have H := Lib.hid (fun w => fold_p c hc w)
  clear hc
  generalize writeL (foldC c) = d at *
  go_enter Tryz.func40, Tryz.ntmps40
  go_wp2_with (go_at_call 41; refine (H.out _).mono ?_; rintro e w3 ⟨rfl, rfl⟩)
  go_ret
  exact ⟨rfl, Gr.refl w⟩
theorem flat_write (f : Int → List Int) (l : List Int) : l.flatMap (fun c => writeL (f c)) = writeL (l.flatMap f) := by
  induction l with
  | nil => rfl
  | cons c l ih => rw [List.flatMap_cons, List.flatMap_cons, ih, writeL_app]
theorem map_write (f : Int → Int) (l : List Int) : l.flatMap (fun c => oneL (f c)) = writeL (l.map f) := by
  induction l with
  | nil => rfl
  | cons c l ih => rw [List.flatMap_cons, List.map_cons, writeL_cons, ih]
/-- a text of small forms; a text of folds (valid texts) -/
theorem smalls_p (s : ByteArray) (hs : s.size ≤ 4096) (hv : (validL s.data.toList).2 = true) (w : World) : Calls Tryz.prog 49 #[.string s] w fun e w' => e = .returned (.string ⟨(writeL ((runesL s.data.toList).map smallC)).toArray⟩) ∧ Gr w w' := by
  have H := Lib.hid (fun w => mapped_p 72 (fun _ c => oneL (smallC c)) (fun _ c => by have := oneL_len (smallC c); omega) s hs hv w (fun p c w' _ _ hc => smalls1_p p c hc w') (enters_of Tryz.func72 (by kernel_rfl) rfl))
  have E : mapF (fun _ c => oneL (smallC c)) (runesL s.data.toList) 0 = writeL ((runesL s.data.toList).map smallC) := by rw [mapF_flat, map_write]
  rw [E] at H
  clear E
  generalize writeL ((runesL s.data.toList).map smallC) = d at *
  go_enter Tryz.func49, Tryz.ntmps49
  go_wp2_with (go_at_call 54; refine (H.out _).mono ?_; rintro e w3 ⟨rfl, g3⟩)
  go_ret
  exact ⟨rfl, g3⟩
/-- the answer of a function that gives a text of characters -/
def ansT (l : List UInt8) (r : List UInt8) : List UInt8 × Int := if chkE l = 0 then sizE r else ([], chkE l)
theorem ansT_no {l r : List UInt8} (h : ¬ chkE l = 0) : ansT l r = ([], chkE l) := if_neg h
theorem ansT_ok {l r : List UInt8} (h : chkE l = 0) : ansT l r = sizE r := if_pos h
abbrev TxtPost (a : List UInt8 × Int) (w : World) (e : Ending) (w' : World) : Prop := e = .returned (.tuple #[.string ⟨a.1.toArray⟩, .int .i64 a.2]) ∧ Gr w w'
set_option maxRecDepth 100000 in
set_option maxHeartbeats 2000000 in
theorem replaced_p (g : FuncId) (f : Nat → Int → List UInt8) (hlen : ∀ p c, (f p c).length ≤ 16) (s : ByteArray) (w : World) (hf : FormOk g f w) (eg : ∀ args w, (callFunc g args).run Tryz.prog w = .ok (.enter g args) w) :
    Calls Tryz.prog 28 #[.string s, .func (.func g) #[] #[]] w (TxtPost (ansT s.data.toList (mapF f (runesL s.data.toList) 0)) w) := by
  have HC := Lib.hid (check1 s w _ 9 (0, 0) rfl)
  by_cases h : chkE s.data.toList = 0
  · obtain ⟨h1, h2⟩ := chkE_zero h
    rw [sizeL] at h1
    have HM := Lib.hid (fun w' (gw : Gr w w') => mapped_p g f hlen s h1 h2 w' (fun p c w'' gw' hp hc => hf p c w'' (gw.trans gw') hp hc) eg)
    rw [h] at HC
    have HE := Lib.hid (ansT_ok (r := mapF f (runesL s.data.toList) 0) h)
    clear h h1 h2 hf hlen eg
    generalize mapF f (runesL s.data.toList) 0 = R at *
    have hrs : (⟨R.toArray⟩ : ByteArray).size = R.length := by show R.toArray.size = _; simp
    by_cases hb : 4096 < R.length
    · have HE2 : Hid (sizE R = ([], 3)) := Lib.hid (if_pos hb)
      go_enter Tryz.func28, Tryz.ntmps28
      go_wp2_with (first | (go_at_call 31; refine HC.out.mono ?_; rintro e w3 ⟨rfl, g3⟩) | (go_at_call 54; refine (HM.out _ g3).mono ?_; rintro e w4 ⟨rfl, g4⟩))
      go_ret2
      exact ⟨by rw [HE.out, HE2.out]; rfl, Gr.trans g3 g4⟩
    · have HE2 : Hid (sizE R = (R, 0)) := Lib.hid (if_neg hb)
      go_enter Tryz.func28, Tryz.ntmps28
      go_wp2_with (first | (go_at_call 31; refine HC.out.mono ?_; rintro e w3 ⟨rfl, g3⟩) | (go_at_call 54; refine (HM.out _ g3).mono ?_; rintro e w4 ⟨rfl, g4⟩))
      go_ret2
      exact ⟨by rw [HE.out, HE2.out]; rfl, Gr.trans g3 g4⟩
  · have HE := Lib.hid (ansT_no (r := mapF f (runesL s.data.toList) 0) h)
    have hb : (chkE s.data.toList == 0) = false := beq_eq_false_iff_ne.2 h
    clear h hf hlen eg
    generalize chkE s.data.toList = E at *
    go_enter Tryz.func28, Tryz.ntmps28
    go_wp2_with (go_at_call 31; refine HC.out.mono ?_; rintro e w3 ⟨rfl, g3⟩)
    go_ret2
    exact ⟨by rw [HE.out]; rfl, g3⟩
end Go.Proofs.YtcaoknlgbocgpaaGreatDoor
