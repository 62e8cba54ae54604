/- Package num's Range, for every two texts. -/
import Derived.Test.YthdchkjipafmfaaDoorRng
namespace Go.Proofs.YthdchkjipafmfaaDoor
open Go.RowKit Go.Shelf

set_option maxRecDepth 100000 in
set_option maxHeartbeats 2000000 in
theorem range_any (f t : ByteArray) (w : World) (hf : f.size ≤ 140737488351232) (ht : t.size ≤ 140737488351232) (hT : Tab w) : Calls Tryd.prog 37 #[.string f, .string t] w (RngPost (rgAll f.data.toList t.data.toList) w) := by
  by_cases h1 : 4096 < f.size
  · have hR := Lib.hid (rgAll_long (t := t.data.toList) (.inl (by rw [sizeL]; exact h1)))
    clear hT
    go_enter Tryd.func37, Tryd.ntmps37
    go_wp2
    go_ret2
    exact ⟨.slice none 0 0, by rw [hR.out]; rfl, by rw [hR.out]; exact World.ownsRow_nil _ _ _ _, Gr.refl w⟩
  by_cases h2 : 4096 < t.size
  · have hR := Lib.hid (rgAll_long (f := f.data.toList) (.inr (by rw [sizeL]; exact h2)))
    clear hT
    go_enter Tryd.func37, Tryd.ntmps37
    go_wp2
    go_ret2
    exact ⟨.slice none 0 0, by rw [hR.out]; rfl, by rw [hR.out]; exact World.ownsRow_nil _ _ _ _, Gr.refl w⟩
  have hR := Lib.hid (rgAll_short (by rw [sizeL]; exact h1) (by rw [sizeL]; exact h2))
  generalize rgAll f.data.toList t.data.toList = R at *
  have HT := Lib.hid hT
  clear hT
  go_enter Tryd.func37, Tryd.ntmps37
  go_wp2_with fail
  go_loopw [6, 7] (fun v s wr => ∃ k : Nat, k ≤ 200 ∧ ∃ acc : List (List UInt8), acc.length = k ∧ ∃ b : ByteArray, s = .string b ∧ wr.ownsRow w.heap.size 9 1 v k (acc.map strV) ∧ Gr w wr ∧ Hid (R = (rg (200 - k) b.data.toList t.data.toList).map (acc ++ ·))) (fun v _ _ => 200 - slLen v)
  case atStart => exact ⟨0, Nat.zero_le _, [], rfl, f, rfl, World.ownsRow_nil _ _ _ _, Gr.refl w, Lib.hid (by rw [hR.out]; simp)⟩
  case round =>
    obtain ⟨k, hk, acc, hak, b, rfl, hown, hg, HR⟩ := hrel
    clear hR
    obtain ⟨ao, cap, rfl⟩ := ownsRow_shape hown
    have Hown := Lib.hid hown
    have Hak := Lib.hid hak
    clear hak
    by_cases hlen : t.size < b.size
    · have HE : Hid (R = some acc) := Lib.hid (rg_far (by rw [sizeL, sizeL]; exact hlen) HR.out)
      clear hown
      go_wp2
      go_ret2
      exact ⟨_, by rw [HE.out]; rfl, by rw [HE.out]; show World.ownsRow _ _ _ _ _ acc.length _; rw [Hak.out]; exact Hown.out, hg⟩
    have hln : ¬ t.data.toList.length < b.data.toList.length := by rw [sizeL, sizeL]; exact hlen
    have Hln := Lib.hid hln
    clear hln
    by_cases hkk : k = 200
    · subst hkk
      have HE : Hid (R = none) := Lib.hid (rg_many Hln.out HR.out)
      clear hown
      go_wp2
      go_ret2
      exact ⟨.slice none 0 0, by rw [HE.out]; rfl, by rw [HE.out]; exact World.ownsRow_nil _ _ _ _, hg⟩
    have hkb : ((k : Int) == 200) = false := by simp; omega
    obtain ⟨i0, hi, hz0, hz1, hz2⟩ := info_parts infoStr
    have hn : 200 - k = (200 - (k + 1)) + 1 := by omega
    rw [hn] at HR
    have hgs := hg.size
    by_cases heq : (b.toList == t.toList) = true
    · have he : b.data.toList = t.data.toList := by rw [ByteArray.toList_eq, ByteArray.toList_eq] at heq; simpa using heq
      have HE : Hid (R = some (acc ++ [b.data.toList])) := Lib.hid (rg_last Hln.out he HR.out)
      clear he hn HR
      go_wp2_with (at_builtin; refine wpList_append_own _ rfl (.tmp 27) (.tmp 29) 46 rfl w.heap.size 9 i0 (.string ⟨#[]⟩) 1 16 Tryd.underlying46 hi hz0 hz1 hz2 rfl (by decide) _ _ _ rfl (Hown.out.alloc _) ⟨wr.heap.size, 0, none⟩ 1 1 [.string b] rfl rfl ?c1 ?c2 ?c3 ?c4 ?c5 ?_)
      case c1 =>
        intro j u hj
        match j, hj with
        | 0, hj => simp at hj; subst hj; simp [Addr.add]
      case c2 => intro u hu; simp at hu; subst hu; rfl
      case c3 => unfold maxLen; omega
      case c4 => omega
      case c5 => simp; omega
      intro v' w1 hown' hgrow _
      have Hown' := Lib.hid hown'
      have hg1 : Hid (Gr w w1) := Lib.hid (Below.grown (hg.alloc _) hgrow (hg.alloc _).size (fun k hk => (Hown.out.lt k hk).1))
      clear hown' hgrow hown
      go_wp2
      go_ret2
      exact ⟨_, by rw [HE.out]; rfl, by rw [HE.out]; show World.ownsRow _ _ _ _ _ (acc ++ [b.data.toList]).length ((acc ++ [b.data.toList]).map strV); rw [List.map_append, List.map_cons, List.map_nil, strV_of, List.length_append, Hak.out]; exact Hown'.out, hg1.out⟩
    · have heq' : (b.toList == t.toList) = false := by simpa using heq
      have he : ¬ b.data.toList = t.data.toList := by intro h; rw [ByteArray.toList_eq, ByteArray.toList_eq, h] at heq; simp at heq
      have HE := Lib.hid (rg_step Hln.out he HR.out)
      have HF := Lib.hid (fun w hT => further_any b w (by omega) hT)
      clear he hn HR heq
      go_wp2_with (at_builtin; refine wpList_append_own _ rfl (.tmp 27) (.tmp 29) 46 rfl w.heap.size 9 i0 (.string ⟨#[]⟩) 1 16 Tryd.underlying46 hi hz0 hz1 hz2 rfl (by decide) _ _ _ rfl (Hown.out.alloc _) ⟨wr.heap.size, 0, none⟩ 1 1 [.string b] rfl rfl ?d1 ?d2 ?d3 ?d4 ?d5 ?_)
      case d1 =>
        intro j u hj
        match j, hj with
        | 0, hj => simp at hj; subst hj; simp [Addr.add]
      case d2 => intro u hu; simp at hu; subst hu; rfl
      case d3 => unfold maxLen; omega
      case d4 => omega
      case d5 => simp; omega
      intro v' w1 hown' hgrow _
      have Hown' := Lib.hid hown'
      have hg1 : Hid (Gr w w1) := Lib.hid (Below.grown (hg.alloc _) hgrow (hg.alloc _).size (fun k hk => (Hown.out.lt k hk).1))
      clear hown' hgrow hown
      obtain ⟨ao', cap', rfl⟩ := ownsRow_shape Hown'.out
      go_wp2_with fail
      have HT1 : Hid (Tab w1) := Lib.hid (HT.out.on hg1.out)
      refine (HF.out w1 HT1.out).mono ?_
      rintro e w2 ⟨r, hr, rfl, hg2⟩
      have Hr := Lib.hid hr
      clear hr
      go_wp2_with fail
      go_roundw
      case rel => exact ⟨k + 1, by omega, acc ++ [b.data.toList], by rw [List.length_append, Hak.out]; rfl, r, rfl, by rw [List.map_append, List.map_cons, List.map_nil, strV_of]; exact ownsRow_gr Hown'.out hg2, hg1.out.trans hg2, Lib.hid (by rw [Hr.out]; exact HE.out)⟩
      case measure => simp [slLen]; omega
end Go.Proofs.YthdchkjipafmfaaDoor
