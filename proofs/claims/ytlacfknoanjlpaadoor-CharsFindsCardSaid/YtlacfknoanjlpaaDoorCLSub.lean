/- The reference's Width and Sub; the law on parts. -/
import Derived.Test.YtlacfknoanjlpaaDoorCKnow
import Derived.Test.YtlacfknoanjlpaaDoorCRInts
namespace Go.Proofs.YtlacfknoanjlpaaDoor
open Go.RowKit Go.Shelf
set_option maxRecDepth 100000 in
theorem width_r (s : ByteArray) (hs : s.size ≤ 140000) (w : World) : Calls Tryd.prog 34 #[.string s] w (IntQ (widT s.data.toList) w) := by
  have HC := Lib.hid (fun w => checked_r s (by omega) w)
  by_cases h : chkE s.data.toList = 0
  · have HM := Lib.hid (fun w => runes_r s hs w)
    rw [h] at HC
    have HE := Lib.hid (widT_ok h)
    clear h
    generalize runesL s.data.toList = R at *
    go_enter Tryd.func34, Tryd.ntmps34
    go_wp2_with fail
    refine (HC.out _).mono ?_
    rintro e w1 ⟨rfl, rfl⟩
    go_wp2_with fail
    refine (HM.out _).mono ?_
    rintro e w2 ⟨v, rfl, ho, g2⟩
    obtain ⟨ao, cap, rfl, _⟩ := ho.ints
    go_wp2
    go_ret2
    exact ⟨by rw [HE.out]; rfl, g2⟩
  · have HE := Lib.hid (widT_no h)
    have hb : (chkE s.data.toList == 0) = false := beq_eq_false_iff_ne.2 h
    clear h
    generalize chkE s.data.toList = E at *
    go_enter Tryd.func34, Tryd.ntmps34
    go_wp2_with fail
    refine (HC.out _).mono ?_
    rintro e w1 ⟨rfl, rfl⟩
    go_wp2
    go_ret2
    exact ⟨by rw [HE.out]; rfl, Gr.refl w⟩
theorem OwnI.cap' {w : World} {base : Nat} {v : Value} {l : List Int} (h : OwnI w base v l) : ∃ ao cap, v = .slice ao l.length cap ∧ l.length ≤ cap ∧ cap ≤ maxLen := by
  rcases h.2 with ⟨rfl, h0⟩ | ⟨g, cap, cur, rfl, _, _, h1, h2, _⟩
  · exact ⟨_, _, by rw [h0], by omega, by unfold maxLen; omega⟩
  · exact ⟨_, _, rfl, h1, h2⟩
/-- a part of a row -/
theorem ints_cut {w : World} {b o cap : Nat} {l : List Int} (h : ∀ k (h : k < l.length), ∃ b' o', some (⟨b, o, none⟩ : Addr) = some ⟨b', o', none⟩ ∧ b' < w.heap.size ∧ w.cell? ⟨b', o' + k, none⟩ = some (.int .i64 l[k])) (F E : Nat) (hFE : F ≤ E) (hE : E ≤ l.length) :
    IntsIs w (.slice (some ⟨b, o + F, none⟩) (E - F) (cap - F)) ((l.take E).drop F) := by
  refine ⟨some ⟨b, o + F, none⟩, cap - F, ?_, fun k hk => ?_⟩
  · congr 1
    rw [List.length_drop, List.length_take]; omega
  · rw [List.length_drop, List.length_take] at hk
    obtain ⟨b', o', e, hb, hc⟩ := h (F + k) (by omega)
    injection e with e
    injection e with e1 e2 _
    subst e1 e2
    refine ⟨b, o + F, rfl, hb, ?_⟩
    rw [show o + F + k = o + (F + k) by omega, hc]
    congr 2
    rw [List.getElem_drop, List.getElem_take]
theorem ints_empty {w : World} {ao : Option Addr} {n cap : Nat} (h : n = 0) : IntsIs w (.slice ao n cap) [] := ⟨ao, cap, by rw [h]; rfl, fun k hk => absurd hk (Nat.not_lt_zero _)⟩
end Go.Proofs.YtlacfknoanjlpaaDoor
