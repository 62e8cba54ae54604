/- The program's text with escapes. -/
import Derived.Test.YtcaoknlgbocgpaaGreatDoorCFmt
import Derived.Test.YtcaoknlgbocgpaaGreatDoorCFrm
namespace Go.Proofs.YtcaoknlgbocgpaaGreatDoor
open Go.RowKit Go.Shelf
theorem bsize {r : ByteArray} {l : List UInt8} (h : r.data.toList = l) : r.size = l.length := by rw [← sizeL, h]
theorem escC_len {c : Int} (hc : isCh c = true) : (escC c).length ≤ 10 := by
  have hb := isCh_true.1 hc
  unfold escC
  split
  · decide
  split
  · have := (hexL_len 5 c.toNat (by show c.toNat < 16777216; omega)).1
    simp only [List.length_cons, List.length_append, List.length_nil]; omega
  · have := (oneL_len c).2; omega
set_option maxRecDepth 100000 in
set_option maxHeartbeats 1000000 in
theorem escaped_p (c : Int) (hc : isCh c = true) (w : World) (hT : DTab w) : Calls Tryz.prog 30 #[.int .i32 c] w fun e w' => e = .returned (.string ⟨(escC c).toArray⟩) ∧ Gr w w' := by
  have hb := isCh_true.1 hc
  by_cases h1 : c = 92
  · subst h1
    clear hT
    go_enter Tryz.func30, Tryz.ntmps30
    go_wp2
    go_ret
    exact ⟨rfl, Gr.refl w⟩
  have h1' : (c == 92) = false := beq_eq_false_iff_ne.2 h1
  by_cases h2 : c < 32 ∨ 126 < c
  · have HE : Hid (escC c = 92 :: 120 :: 123 :: (hexL c.toNat ++ [125])) := Lib.hid (by unfold escC; rw [if_neg h1, if_pos h2])
    have hl := (hexL_len 5 c.toNat (by show c.toNat < 16777216; omega)).1
    obtain ⟨u, rfl⟩ : ∃ u : Nat, c = (u : Int) := ⟨c.toNat, by omega⟩
    rw [Int.toNat_natCast] at HE hl
    have H := Lib.hid (format16 u (by omega) w hT)
    clear hT
    rcases h2 with h2 | h2
    all_goals
      go_enter Tryz.func30, Tryz.ntmps30
      go_wp2_with fail
      refine H.out.mono ?_
      rintro e w1 ⟨r, hr, rfl, g1⟩
      have hs : r.size ≤ 6 := by rw [bsize hr]; omega
      have Hr := Lib.hid hr
      clear hr
      go_wp2
      go_ret
      have e : (⟨#[92, 120, 123]⟩ : ByteArray) ++ r ++ (⟨#[125]⟩ : ByteArray) = ⟨(92 :: 120 :: 123 :: (hexL u ++ [125])).toArray⟩ := barr_of (by rw [app_data, app_data, Hr.out]; simp)
      exact ⟨by rw [HE.out, ← e]; rfl, g1⟩
  · have HE : Hid (escC c = oneL c) := Lib.hid (by unfold escC; rw [if_neg h1, if_neg h2])
    have He := Lib.hid (encode_one hc)
    have g1 : ¬ c < 32 := fun h => h2 (.inl h)
    have g2 : ¬ 126 < c := fun h => h2 (.inr h)
    clear hT h2
    go_enter Tryz.func30, Tryz.ntmps30
    go_wp2
    go_ret
    exact ⟨by rw [HE.out, ← He.out]; rfl, Gr.refl w⟩
set_option maxRecDepth 100000 in
theorem escape1_p (p : Nat) (c : Int) (hc : isCh c = true) (w : World) (hT : DTab w) : Calls Tryz.prog 29 #[.int .i64 p, .int .i32 c] w fun e w' => e = .returned (.string ⟨(escC c).toArray⟩) ∧ Gr w w' := by
  have H := Lib.hid (fun w h => escaped_p c hc w h)
  have HT := Lib.hid hT
  clear hc hT
  generalize escC c = d at *
  go_enter Tryz.func29, Tryz.ntmps29
  go_wp2_with (go_at_call 30; refine (H.out _ HT.out).mono ?_; rintro e w3 ⟨rfl, g3⟩)
  go_ret
  exact ⟨rfl, g3⟩
/-- a text with escapes, of its characters; texts that are none: nothing -/
def escF (c : Int) : List UInt8 := if isCh c = true then escC c else []
theorem escF_flat {l : List Int} (h : l.all isCh = true) : l.flatMap escF = l.flatMap escC := by
  induction l with
  | nil => rfl
  | cons c l ih =>
    rw [List.all_cons, Bool.and_eq_true] at h
    rw [List.flatMap_cons, List.flatMap_cons, ih h.2]
    congr 1
    unfold escF; rw [if_pos h.1]
theorem escape_p (s : ByteArray) (w : World) (hT : DTab w) : Calls Tryz.prog 9 #[.string s] w (TxtPost (ansT s.data.toList ((runesL s.data.toList).flatMap escC)) w) := by
  have H := Lib.hid (replaced_p 29 (fun _ c => escF c) (fun _ c => by
      show (escF c).length ≤ 16
      unfold escF
      by_cases h : isCh c = true
      · rw [if_pos h]; have := escC_len h; omega
      · rw [if_neg h]; decide) s w (fun p c w' gw _ hc => by
        show Calls _ _ _ _ fun e w'' => e = .returned (.string ⟨(escF c).toArray⟩) ∧ Gr w' w''
        unfold escF; rw [if_pos hc]
        exact escape1_p p c hc w' (hT.on gw)) (enters_of Tryz.func29 (by kernel_rfl) rfl))
  have E : mapF (fun _ c => escF c) (runesL s.data.toList) 0 = (runesL s.data.toList).flatMap escC := by rw [mapF_flat, escF_flat (runes_ch _)]
  rw [E] at H
  clear E hT
  generalize ansT s.data.toList ((runesL s.data.toList).flatMap escC) = A at *
  obtain ⟨a, b⟩ := A
  go_enter Tryz.func9, Tryz.ntmps9
  go_wp2_with (go_at_call 28; refine H.out.mono ?_; rintro e w3 ⟨rfl, g3⟩)
  go_ret2
  exact ⟨rfl, g3⟩
end Go.Proofs.YtcaoknlgbocgpaaGreatDoor
