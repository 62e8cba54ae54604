/- strings.Cut at one byte; strings.CutPrefix. -/
import Derived.Test.YtcaoknlgbocgpaaGreatDoorCEsc2
import Derived.Test.YtcaoknlgbocgpaaGreatDoorCShelf7
import Derived.Lib.IndexLaws
namespace Go.Proofs.YtcaoknlgbocgpaaGreatDoor
open Go.RowKit Go.Shelf
def splitI (c : UInt8) (l : List UInt8) : Int := match splitC c l with
  | none => -1
  | some p => (p.1.length : Int)
theorem idx_split (c : UInt8) (l : List UInt8) : Lib.indexByte l c = splitI c l := by
  unfold splitI
  induction l with
  | nil => rfl
  | cons x l ih =>
    unfold Lib.indexByte
    rw [splitC, ih]
    by_cases h : x = c
    · rw [if_pos h, if_pos (by simpa using h)]; rfl
    · rw [if_neg h, if_neg (by simpa using h)]
      cases hs : splitC c l with
      | none => rfl
      | some p =>
        show (if ((p.1.length : Int) == -1) = true then (-1 : Int) else (p.1.length : Int) + 1) = ((x :: p.1).length : Int)
        rw [if_neg (by simp), List.length_cons]; omega
theorem splitC_pos {c : UInt8} {l a b : List UInt8} (h : splitC c l = some (a, b)) : a = l.take a.length ∧ b = l.drop (a.length + 1) ∧ a.length < l.length := by
  obtain ⟨rfl, _⟩ := splitC_some h
  refine ⟨by rw [List.take_left], ?_, by simp⟩
  rw [← List.drop_drop, List.drop_left]; rfl
theorem takeB (s : ByteArray) (k : Nat) : (s.extract 0 k).data.toList = s.data.toList.take k := by simp
theorem lindex_any (s sep : ByteArray) (c : UInt8) (hc : sep.data.toList = [c]) (w : World) : Calls Tryz.prog 75 #[.string s, .string sep] w fun e w' => e = .returned (.int .i64 (splitI c s.data.toList)) ∧ w = w' := by
  have h1 : sep.size = 1 := by rw [← sizeL, hc]; rfl
  have h0 : 0 < sep.size := by omega
  have hg : sep[0]'h0 = c := by
    have := getL sep 0 h0
    rw [hc] at this
    exact (Option.some.inj this).symm
  have HX : Hid (∀ w, Calls Tryz.prog 101 #[.string s, .int .u8 ((sep[0]'h0).toNat : Int)] w fun e w' => e = .returned (.int .i64 (splitI c s.data.toList)) ∧ w = w') := Lib.hid (fun w => by
    have g := Any.stringslite_IndexByte Tryz.lays217 s ((sep[0]'h0).toNat : Int) w
    change Calls Tryz.prog 101 _ _ _ at g
    refine g.mono fun e w' ⟨he, hw⟩ => ⟨?_, hw.symm⟩
    rw [he, hg, ← idx_split]
    congr 3
    simp)
  have b0 : ((sep.size : Int) == 0) = false := beq_eq_false_iff_ne.2 (by omega)
  have b1 : ((sep.size : Int) == 1) = true := by rw [beq_iff_eq]; omega
  have hb : sep.size ≤ 1 := by omega
  have HQ : (sep.toList == s.toList) = true → Hid (splitI c s.data.toList = 0) := fun h => Lib.hid (by
    rw [beq_iff_eq, ByteArray.toList_eq, ByteArray.toList_eq] at h
    rw [← h, hc]
    unfold splitI
    rw [splitC, if_pos rfl]; rfl)
  clear h1 hg hc
  cases hq : (sep.toList == s.toList)
  · clear HQ
    go_enter Tryz.func75, Tryz.ntmps75
    go_wp2_with (go_at_call 101; refine (HX.out _).mono ?_; rintro e w1 ⟨rfl, rfl⟩)
    go_ret
    exact ⟨rfl, rfl⟩
  · have HZ := HQ hq
    clear HQ HX
    go_enter Tryz.func75, Tryz.ntmps75
    go_wp2
    go_ret
    exact ⟨by rw [HZ.out]; rfl, rfl⟩
theorem lcut_no (s sep : ByteArray) (c : UInt8) (hc : sep.data.toList = [c]) (h : splitC c s.data.toList = none) (w : World) :
    Calls Tryz.prog 57 #[.string s, .string sep] w fun e w' => e = .returned (.tuple #[.string s, .string ⟨#[]⟩, .bool false]) ∧ Gr w w' := by
  have H := Lib.hid (fun w => lindex_any s sep c hc w)
  rw [show splitI c s.data.toList = -1 by unfold splitI; rw [h]] at H
  clear h hc
  go_enter Tryz.func57, Tryz.ntmps57
  go_wp2_with (go_at_call 75; refine (H.out _).mono ?_; rintro e w1 ⟨rfl, rfl⟩)
  go_ret3
  exact ⟨rfl, Gr.refl w⟩
theorem lcut_yes (s sep : ByteArray) (c : UInt8) (a b : List UInt8) (hc : sep.data.toList = [c]) (h : splitC c s.data.toList = some (a, b)) (hs : s.size ≤ 140737488351232) (w : World) :
    Calls Tryz.prog 57 #[.string s, .string sep] w fun e w' => e = .returned (.tuple #[.string ⟨a.toArray⟩, .string ⟨b.toArray⟩, .bool true]) ∧ Gr w w' := by
  have H := Lib.hid (fun w => lindex_any s sep c hc w)
  obtain ⟨e1, e2, e3⟩ := splitC_pos h
  rw [sizeL] at e3
  rw [show splitI c s.data.toList = (a.length : Int) by unfold splitI; rw [h]] at H
  have h1 : sep.size = 1 := by rw [← sizeL, hc]; rfl
  have EA : Hid (s.extract 0 a.length = ⟨a.toArray⟩) := Lib.hid (barr_of (by rw [takeB]; exact e1.symm))
  have EB : Hid (s.extract (a.length + sep.size) s.size = ⟨b.toArray⟩) := Lib.hid (barr_of (by rw [h1, dropE]; exact e2.symm))
  have b1 : sep.size ≤ 1 := by omega
  have b2 : 1 ≤ sep.size := by omega
  clear e1 e2 h hc h1
  generalize a.length = k at *
  have c1 : (0 : Int) ≤ ↑k := by omega
  have c2 : (↑k : Int) ≤ ↑s.size := by omega
  have c3 : (0 : Int) ≤ ↑k + ↑sep.size := by omega
  have c4 : (↑k + ↑sep.size : Int) ≤ ↑s.size := by omega
  go_enter Tryz.func57, Tryz.ntmps57
  go_wp2_with (go_at_call 75; refine (H.out _).mono ?_; rintro e w1 ⟨rfl, rfl⟩)
  go_quiet (fail)
  go_wp2
  go_ret3
  exact ⟨by rw [← EA.out, ← EB.out]; rfl, Gr.drewN (Gr.refl _) _⟩
theorem cut_no (s sep : ByteArray) (c : UInt8) (hc : sep.data.toList = [c]) (h : splitC c s.data.toList = none) (w : World) :
    Calls Tryz.prog 32 #[.string s, .string sep] w fun e w' => e = .returned (.tuple #[.string s, .string ⟨#[]⟩, .bool false]) ∧ Gr w w' := by
  have H := Lib.hid (fun w => lcut_no s sep c hc h w)
  clear h hc
  go_enter Tryz.func32, Tryz.ntmps32
  go_wp2_with (go_at_call 57; refine (H.out _).mono ?_; rintro e w1 ⟨rfl, g1⟩)
  go_ret3
  exact ⟨rfl, g1⟩
theorem cut_yes (s sep : ByteArray) (c : UInt8) (a b : List UInt8) (hc : sep.data.toList = [c]) (h : splitC c s.data.toList = some (a, b)) (hs : s.size ≤ 140737488351232) (w : World) :
    Calls Tryz.prog 32 #[.string s, .string sep] w fun e w' => e = .returned (.tuple #[.string ⟨a.toArray⟩, .string ⟨b.toArray⟩, .bool true]) ∧ Gr w w' := by
  have H := Lib.hid (fun w => lcut_yes s sep c a b hc h hs w)
  clear h hc
  go_enter Tryz.func32, Tryz.ntmps32
  go_wp2_with (go_at_call 57; refine (H.out _).mono ?_; rintro e w1 ⟨rfl, g1⟩)
  go_ret3
  exact ⟨rfl, g1⟩
theorem cutp_any (s p : ByteArray) (w : World) : Calls Tryz.prog 59 #[.string s, .string p] w fun e w' => e = .returned (.tuple #[.string ⟨(Lib.trimPrefix s.data.toList p.data.toList).toArray⟩, .bool (Lib.hasPrefix s.data.toList p.data.toList)]) ∧ w = w' :=
  (Any.strings_CutPrefix Tryz.lays103 s p w).mono fun _ _ ⟨he, h⟩ => ⟨he, h.symm⟩
end Go.Proofs.YtcaoknlgbocgpaaGreatDoor
